/-
  Several texts in one: Lb, Lc.
-/
import Derived.Test.YtddmfdjkkikapaaGreatDoorLa
import Derived.Test.YtddmfdjkkikapaaGreatDoorGrJ6
import Derived.Test.YtddmfdjkkikapaaGreatDoorGrJ9
/-
  The walk of eachRun (hunks): whatever the function does with each run, by what it keeps.
-/
namespace Go.Proofs.YtddmfdjkkikapaaGreatDoor
open Go.RowKit
open Hu (Rw Hk)

/-- of what was there ahead of a call, or is marked, nothing has changed -/
structure Far (E : Nat) (X : Nat → Prop) (w w' : World) : Prop where
  os : w'.os = w.os
  tape : w'.tape = w.tape
  output : w'.output = w.output
  size : w.heap.size ≤ w'.heap.size
  block : ∀ g, g < w.heap.size → (g < E ∨ X g) → w'.heap[g]? = w.heap[g]?
theorem Far.of_below {E : Nat} {X : Nat → Prop} {w w' : World} (h : Below w.heap.size w w') : Far E X w w' := ⟨h.os, h.tape, h.output, h.size, fun g hg _ => h.block g hg⟩
theorem Far.set {E g : Nat} {X : Nat → Prop} {w : World} {k : Nat} {u : Value} (hE : E ≤ g) (hX : ¬ X g) : Far E X w (w.setCell ⟨g, k, none⟩ u) := by
  have h := below_set (k := k) (u := u) (Below.refl 0 w) (Nat.zero_le g)
  exact ⟨h.os, h.tape, h.output, h.size, fun q _ hq => set_other _ (fun e => by
    subst e
    rcases hq with hq | hq
    · omega
    · exact hX hq)⟩
def spV (r : Nat × Nat) : Value := .agg #[.int .i64 (r.1 : Nat), .int .i64 (r.2 : Nat)]
/-- what the function that eachRun is handed must keep to -/
structure Takes (F : FuncId) (caps : Array Value) (B E : Nat) (w0 : World) (rs : List (Nat × Nat)) (I : List (Nat × Nat) → (Nat → Prop) → World → Prop) : Prop where
  ent : ∀ (args : Array Value) (w : World), (callFunc F args).run Tryz.prog w = .ok (.enter F args) w
  far : ∀ d X w1 w2, I d X w1 → Far E X w1 w2 → I d X w2
  ge : ∀ d X w1, I d X w1 → ∀ g, X g → B ≤ g
  step : ∀ d X r w1, I d X w1 → Below B w0 w1 → (∃ rest, rs = d ++ r :: rest) → Calls Tryz.prog F (#[spV r] ++ caps) w1 fun e w2 => e = .returned (.tuple #[]) ∧ Kept X w1 w2 ∧ ∃ X', (∀ g, X' g → X g ∨ w1.heap.size ≤ g) ∧ I (d ++ [r]) X' w2
set_option maxHeartbeats 2000000 in
set_option maxRecDepth 100000 in
theorem end_any {w w0 : World} {fb tb B E : Nat} {f i : Nat} {F : FuncId} {caps : Array Value} {rs : List (Nat × Nat)} {I : List (Nat × Nat) → (Nat → Prop) → World → Prop} (hT : Takes F caps B E w0 rs I) {d : List (Nat × Nat)} {X : Nat → Prop} (hI : I d X w) (hb0 : Below B w0 w) (hB : B ≤ E) (hfi : f ≤ i + 1) (hi : i < 140737488355328)
    (hf : w.heap[fb]? = some (.cells #[.int .i64 f] 3)) (ht : w.cell? ⟨tb, 0, none⟩ = some (.func (.func F) #[] caps)) (hEf : E ≤ fb) (hne : fb ≠ tb) (hXf : ¬ X fb) (hXt : ¬ X tb) (hrs : ∃ rest, rs = d ++ Hu.run1 f i ++ rest) :
    Calls Tryz.prog 82 #[.int .i64 i, .pointer (some ⟨fb, 0, none⟩), .pointer (some ⟨tb, 0, none⟩)] w fun e w' => e = .returned (.tuple #[]) ∧ Below B w w' ∧ w'.heap[fb]? = some (.cells #[.int .i64 ((i + 1 : Nat) : Int)] 3) ∧ w'.cell? ⟨tb, 0, none⟩ = some (.func (.func F) #[] caps) ∧ ∃ X', I (d ++ Hu.run1 f i) X' w' ∧ ¬ X' fb ∧ ¬ X' tb := by
  have c0 : w.cell? ⟨fb, 0, none⟩ = some (.int .i64 f) := cell_of_blk hf 0
  have zf : ∀ j, w.frozen? ⟨fb, j, none⟩ = false := fun j => frozen_of_blk hf j
  have s1 : IntKind.i64.wrap ((i : Int) + 1) = ((i + 1 : Nat) : Int) := (wrapOk (by omega) (by omega)).trans (by omega)
  have HT := hid hT
  have HI := hid hI
  have HF := hid hf
  have HX := hid (And.intro hXf hXt)
  by_cases hlt : f < i
  · have hr1 : Hu.run1 f i = [(f, i)] := by unfold Hu.run1; rw [if_pos hlt]
    have hl : (f : Int) < (i : Int) := by omega
    rw [hr1] at hrs ⊢
    have HC := hid (hT.step d X (f, i) w hI hb0 (by obtain ⟨r, h⟩ := hrs; exact ⟨r, by rw [h]; simp⟩))
    have HENT := hid hT.ent
    have HT0 := hid ht
    unfold spV at HC
    clear hI hf hr1 hrs hT
    go_enter Tryz.func82, Tryz.ntmps82
    go_wp2_with fail
    rw [HENT.out, Oper.upon_enter]
    refine HC.out.mono ?_
    rintro e w2 ⟨rfl, hK, X', hX', hI2⟩
    have HF2 := hid ((hK.block fb (lt_of_heap HF.out) HX.out.1).trans HF.out)
    have HT2 := hid ((hK.cell (lt_of_cell HT0.out) HX.out.2).trans HT0.out)
    have HB2 := hid (hK.below (fun g hg => HT.out.ge _ _ _ HI.out g hg) (Nat.le_trans hB (Nat.le_of_lt (Nat.lt_of_le_of_lt hEf (lt_of_heap HF.out)))))
    have HXn : Hid (¬ X' fb ∧ ¬ X' tb) := hid ⟨fun h => by
      rcases hX' _ h with h | h
      · exact HX.out.1 h
      · have := lt_of_heap HF.out; omega, fun h => by
      rcases hX' _ h with h | h
      · exact HX.out.2 h
      · have := lt_of_cell HT0.out
        have h9 : tb < w.heap.size := this
        omega⟩
    have HI2 := hid hI2
    have y0 : w2.cell? ⟨fb, 0, none⟩ = some (.int .i64 f) := cell_of_blk HF2.out 0
    have zf2 : ∀ j, w2.frozen? ⟨fb, j, none⟩ = false := fun j => frozen_of_blk HF2.out j
    clear hK hX' hI2 c0 zf ht
    go_wp2_with fail
    refine bodyPost_end (v := .tuple #[]) (by simp [results, Tryz.results82]) rfl ⟨rfl, below_set HB2.out (by omega), set_heap _ fb 0 _ _ _ HF2.out, ?_, X', HT.out.far _ _ _ _ HI2.out (Far.set hEf HXn.out.1), HXn.out.1, HXn.out.2⟩
    unfold World.cell?
    rw [show (⟨tb, 0, none⟩ : Addr).block = tb from rfl, set_other _ (Ne.symm hne)]
    exact HT2.out
  · have hr1 : Hu.run1 f i = [] := by unfold Hu.run1; rw [if_neg hlt]
    have hl : ¬ (f : Int) < (i : Int) := by omega
    rw [hr1, List.append_nil]
    have HT0 := hid ht
    have HB2 : Hid (Below B w w) := hid (Below.refl _ _)
    clear hI hf hr1 hrs hT
    go_enter Tryz.func82, Tryz.ntmps82
    go_wp2_with fail
    refine bodyPost_end (v := .tuple #[]) (by simp [results, Tryz.results82]) rfl ⟨rfl, below_set HB2.out (by omega), set_heap _ fb 0 _ _ _ HF.out, ?_, X, HT.out.far _ _ _ _ HI.out (Far.set hEf HX.out.1), HX.out.1, HX.out.2⟩
    unfold World.cell?
    rw [show (⟨tb, 0, none⟩ : Addr).block = tb from rfl, set_other _ (Ne.symm hne)]
    exact HT0.out
theorem two' (w : World) (A C : Obj) : Below w.heap.size w ((w.alloc A).alloc C) ∧ ((w.alloc A).alloc C).heap[w.heap.size]? = some A ∧ ((w.alloc A).alloc C).heap[w.heap.size + 1]? = some C ∧ ((w.alloc A).alloc C).heap.size = w.heap.size + 2 := by
  have h1 := (Below.refl w.heap.size w).alloc (Nat.le_refl _) A
  have h2 : Below (w.alloc A).heap.size (w.alloc A) ((w.alloc A).alloc C) := (Below.refl _ _).alloc (Nat.le_refl _) C
  refine ⟨h1.trans (h2.mono h1.size), (h2.block w.heap.size (by simp)).trans (heap_alloc_new w A), ?_, by simp⟩
  have := heap_alloc_new (w.alloc A) C
  simpa using this
theorem dropW {l : List Rw} {k : Nat} {x : Rw} (h : l[k]? = some x) : l.drop k = x :: l.drop (k + 1) := by
  obtain ⟨h1, h2⟩ := List.getElem?_eq_some_iff.1 h
  rw [List.drop_eq_getElem_cons h1, h2]
/-- what holds between two rounds of eachRun -/
structure ErI (I : List (Nat × Nat) → (Nat → Prop) → World → Prop) (l : List Rw) (F : FuncId) (caps : Array Value) (B fb tb k f : Nat) (w wr : World) (d : List (Nat × Nat)) (X : Nat → Prop) : Prop where
  runs : Hu.runsR l 0 0 = d ++ Hu.runsR (l.drop k) k f
  inv : I d X wr
  below : Below B w wr
  from_ : wr.heap[fb]? = some (.cells #[.int .i64 f] 3)
  take : wr.cell? ⟨tb, 0, none⟩ = some (.func (.func F) #[] caps)
  nf : ¬ X fb
  nt : ¬ X tb
theorem ErI.far {I : List (Nat × Nat) → (Nat → Prop) → World → Prop} {l : List Rw} {F : FuncId} {caps : Array Value} {B fb tb k f E : Nat} {w w0 wr w2 : World} {d : List (Nat × Nat)} {X : Nat → Prop} {rs : List (Nat × Nat)} (h : ErI I l F caps B fb tb k f w wr d X) (hT : Takes F caps B E w0 rs I) (hb : Below wr.heap.size wr w2) (hB : B ≤ wr.heap.size) : ErI I l F caps B fb tb k f w w2 d X :=
  ⟨h.runs, hT.far _ _ _ _ h.inv (Far.of_below hb), h.below.trans (hb.mono hB), (hb.block fb (lt_of_heap h.from_)).trans h.from_, (hb.cell (lt_of_cell h.take)).trans h.take, h.nf, h.nt⟩
set_option maxHeartbeats 2000000 in
set_option maxRecDepth 100000 in
theorem hEachRun_any {w : World} {v : Value} {l : List Rw} {B : Nat} {F : FuncId} {caps : Array Value} {I : List (Nat × Nat) → (Nat → Prop) → World → Prop} (hv : RdW w v l) (hu : Under B v) (hB : B ≤ w.heap.size) (hl : l.length < 5864062014800) (hT : Takes F caps B w.heap.size w (Hu.runsR l 0 0) I) {X0 : Nat → Prop} (h0 : I [] X0 w) (hX0 : ∀ g, X0 g → g < w.heap.size) :
    Calls Tryz.prog 37 #[v, .func (.func F) #[] caps] w fun e w' => e = .returned (.tuple #[]) ∧ Below B w w' ∧ ∃ X, I (Hu.runsR l 0 0) X w' := by
  obtain ⟨a, c, rfl⟩ := hv.shape
  have HV := hid hv
  have HU := hid hu
  have HT := hid hT
  have HI0 := hid h0
  have HX0 := hid hX0
  obtain ⟨n, hn⟩ : ∃ n, n = l.length := ⟨_, rfl⟩
  have HN := hid hn
  rw [← hn] at HV HU hl ⊢
  clear hv hu hT h0 hX0 hn
  go_enter Tryz.func37, Tryz.ntmps37
  go_wp2_with fail
  obtain ⟨t1, t2, t3, t4⟩ := two' w (.cells #[.func (.func F) #[] caps] 82) (.cells #[.int .i64 0] 3)
  have hE0 : ErI I l F caps B (w.heap.size + 1) w.heap.size 0 0 w ((w.alloc (.cells #[.func (.func F) #[] caps] 82)).alloc (.cells #[.int .i64 0] 3)) [] X0 :=
    ⟨rfl, HT.out.far _ _ _ _ HI0.out (Far.of_below t1), t1.mono hB, t3, cell_of_blk t2 0, fun h => by have := HX0.out _ h; omega, fun h => by have := HX0.out _ h; omega⟩
  have hsz : w.heap.size + 2 ≤ ((w.alloc (.cells #[.func (.func F) #[] caps] 82)).alloc (.cells #[.int .i64 0] 3)).heap.size := by rw [t4]; exact Nat.le_refl _
  generalize (w.alloc (.cells #[.func (.func F) #[] caps] 82)).alloc (.cells #[.int .i64 0] 3) = w1 at hE0 hsz ⊢
  clear t1 t2 t3 t4
  have HE0 := hid hE0
  clear hE0
  obtain ⟨tb, htb⟩ : ∃ tb, tb = w.heap.size := ⟨_, rfl⟩
  obtain ⟨fb, hfb⟩ : ∃ fb, fb = tb + 1 := ⟨_, rfl⟩
  have HTB := hid htb
  rw [← htb, ← hfb] at HE0 ⊢
  have HNE : Hid (fb ≠ tb ∧ tb ≤ fb) := hid (by omega)
  clear htb hfb
  go_loopw [11] (fun ii wr => ∃ (k f : Nat) (d : List (Nat × Nat)) (X : Nat → Prop), k ≤ n ∧ f ≤ k ∧ ii = .int .i64 k ∧ Hid (ErI I l F caps B fb tb k f w wr d X) ∧ Hid (w.heap.size ≤ wr.heap.size)) (fun ii _ => n - (intOf ii).toNat)
  case atStart => exact ⟨0, 0, [], X0, Nat.zero_le _, Nat.le_refl _, rfl, HE0, hid (by omega)⟩
  case round =>
    obtain ⟨k, f, d, X, hk, hfk, rfl, HE, HS⟩ := hrel
    by_cases hlt : k < n
    · obtain ⟨x, hx⟩ : ∃ x, l[k]? = some x := ⟨_, List.getElem?_eq_getElem (by have := HN.out; omega)⟩
      obtain ⟨b1, o1, e1, hb1, d0, d1⟩ := rdW_at (HV.out.keep HU.out HE.out.below) hx
      subst e1
      have HR := hid HE.out.runs
      rw [dropW hx, Hu.runsR] at HR
      have i1 : (0 : Int) ≤ (k : Int) := by omega
      have i2 : (k : Int) < (n : Int) := by omega
      have HC1 := hid (fun w1 => isChanged_any x w1)
      unfold RwV at HC1
      have hbn := (Below.refl wr.heap.size wr).alloc (Nat.le_refl _) (.cells #[.int .i64 x.k, .string x.t] 59)
      have HE1 := hid (HE.out.far HT.out hbn (Nat.le_trans hB HS.out))
      have HS1 : Hid (w.heap.size ≤ (wr.alloc (.cells #[.int .i64 x.k, .string x.t] 59)).heap.size) := hid (Nat.le_trans HS.out hbn.size)
      clear hx hb1 hbn HE
      cases hq : Hu.isC x with
      | true =>
        rw [hq, if_pos rfl] at HR
        rw [hq] at HC1
        go_wp2_with fail
        refine (HC1.out _).mono ?_
        rintro e w2 ⟨rfl, h2⟩
        have HE2 := hid (HE1.out.far HT.out h2 (Nat.le_trans hB HS1.out))
        have HS2 := hid (Nat.le_trans HS1.out h2.size)
        clear h2
        go_wp2_with fail
        go_roundw
        case rel => exact ⟨k + 1, f, d, X, by omega, by omega, by go_num, hid ⟨HR.out, HE2.out.inv, HE2.out.below, HE2.out.from_, HE2.out.take, HE2.out.nf, HE2.out.nt⟩, HS2⟩
        case measure => simp [intOf]; omega
      | false =>
        rw [hq, if_neg (by simp)] at HR
        rw [hq] at HC1
        go_wp2_with fail
        refine (HC1.out _).mono ?_
        rintro e w2 ⟨rfl, h2⟩
        have HE2 := hid (HE1.out.far HT.out h2 (Nat.le_trans hB HS1.out))
        have HS2 := hid (Nat.le_trans HS1.out h2.size)
        clear h2 HE1
        go_wp2_with fail
        refine (end_any (i := k) HT.out HE2.out.inv HE2.out.below hB (by omega) (by omega) HE2.out.from_ HE2.out.take (by have := HTB.out; have := HNE.out; omega) HNE.out.1 HE2.out.nf HE2.out.nt ⟨_, by rw [List.append_assoc]; exact HR.out⟩).mono ?_
        rintro e w3 ⟨rfl, hb3, hf3, ht3, X', hI3, hn1, hn2⟩
        have HE3 : Hid (ErI I l F caps B fb tb (k + 1) (k + 1) w w3 (d ++ Hu.run1 f k) X') := hid ⟨by rw [HR.out, List.append_assoc], hI3, HE2.out.below.trans hb3, hf3, ht3, hn1, hn2⟩
        have HS3 := hid (Nat.le_trans HS2.out hb3.size)
        clear hb3 hf3 ht3 hI3 hn1 hn2
        go_wp2_with fail
        go_roundw
        case rel => exact ⟨k + 1, k + 1, _, X', by omega, by omega, by go_num, HE3, HS3⟩
        case measure => simp [intOf]; omega
    · obtain rfl : k = n := by omega
      have HR := hid HE.out.runs
      rw [List.drop_eq_nil_of_le (by have := HN.out; omega), Hu.runsR] at HR
      go_wp2_with fail
      refine (end_any (i := k) HT.out HE.out.inv HE.out.below hB (by omega) (by omega) HE.out.from_ HE.out.take (by have := HTB.out; have := HNE.out; omega) HNE.out.1 HE.out.nf HE.out.nt ⟨[], by rw [List.append_nil]; exact HR.out⟩).mono ?_
      rintro e w3 ⟨rfl, hb3, hf3, ht3, X', hI3, hn1, hn2⟩
      have HB3 := hid (HE.out.below.trans hb3)
      have HI3 := hid hI3
      clear hb3 hf3 ht3 hI3 hn1 hn2
      go_wp2_with fail
      exact bodyPost_end (v := .tuple #[]) (by simp [results, Tryz.results37]) rfl ⟨rfl, HB3.out, X', by rw [HR.out]; exact HI3.out⟩
end Go.Proofs.YtddmfdjkkikapaaGreatDoor
/-
  The walk of Script's function.
-/
namespace Go.Proofs.YtddmfdjkkikapaaGreatDoor
namespace Hu
/-- how far the rows are told -/
def dnOf (d : List (Nat × Nat)) : Nat := match d.getLast? with
  | none => 0
  | some r => r.2
theorem dnOf_app (d : List (Nat × Nat)) (r : Nat × Nat) : dnOf (d ++ [r]) = r.2 := by unfold dnOf; simp
theorem runsR_in : ∀ (l : List Rw) (i f : Nat), f ≤ i → ∀ (d : List (Nat × Nat)) (r : Nat × Nat) (rest : List (Nat × Nat)), runsR l i f = d ++ r :: rest → (d = [] → f ≤ r.1) ∧ (d ≠ [] → dnOf d ≤ r.1) ∧ r.1 < r.2 ∧ r.2 ≤ i + l.length
  | [], i, f, hf, d, r, rest, h => by
    rw [runsR, run1] at h
    split at h
    · next hlt =>
      cases d with
      | nil =>
        simp at h
        obtain ⟨rfl, rfl⟩ := h
        exact ⟨fun _ => Nat.le_refl _, fun h => absurd rfl h, hlt, by simp⟩
      | cons x d => simp at h
    · simp at h
  | x :: l, i, f, hf, d, r, rest, h => by
    rw [runsR] at h
    split at h
    · obtain ⟨q1, q2, q3, q4⟩ := runsR_in l (i + 1) f (by omega) d r rest h
      exact ⟨q1, q2, q3, by rw [List.length_cons]; omega⟩
    · rw [run1] at h
      split at h
      · next hlt =>
        cases d with
        | nil =>
          simp at h
          obtain ⟨rfl, _⟩ := h
          exact ⟨fun _ => Nat.le_refl _, fun h => absurd rfl h, hlt, by simp⟩
        | cons y d =>
          rw [List.cons_append, List.nil_append, List.cons_append, List.cons.injEq] at h
          obtain ⟨rfl, h⟩ := h
          obtain ⟨q1, q2, q3, q4⟩ := runsR_in l (i + 1) (i + 1) (Nat.le_refl _) d r rest h
          refine ⟨(fun h => by cases h), fun _ => ?_, q3, by rw [List.length_cons]; omega⟩
          cases d with
          | nil =>
            have := q1 rfl
            show i ≤ r.1
            omega
          | cons z d =>
            have := q2 (by simp)
            unfold dnOf at this ⊢
            rw [List.getLast?_cons_cons]
            exact this
      · rw [List.nil_append] at h
        obtain ⟨q1, q2, q3, q4⟩ := runsR_in l (i + 1) (i + 1) (Nat.le_refl _) d r rest h
        exact ⟨fun e => by have := q1 e; omega, q2, q3, by rw [List.length_cons]; omega⟩
theorem runs_in {l : List Rw} {d : List (Nat × Nat)} {r : Nat × Nat} {rest : List (Nat × Nat)} (h : runsR l 0 0 = d ++ r :: rest) : dnOf d ≤ r.1 ∧ r.1 < r.2 ∧ r.2 ≤ l.length := by
  obtain ⟨q1, q2, q3, q4⟩ := runsR_in l 0 0 (Nat.le_refl _) d r rest h
  refine ⟨?_, q3, by omega⟩
  cases d with
  | nil => exact Nat.zero_le _
  | cons x d => exact q2 (by simp)
theorem olds_take_sub {l : List Rw} {f t : Nat} (h : f ≤ t) : (olds (l.take t)).length = (olds (l.take f)).length + (olds (sub l f t)).length ∧ (fres (l.take t)).length = (fres (l.take f)).length + (fres (sub l f t)).length := by
  have e : l.take t = l.take f ++ sub l f t := by
    unfold sub
    rw [← List.take_add, show f + (t - f) = t by omega]
  rw [e, olds_app, fres_app, List.length_append, List.length_append]
  exact ⟨rfl, rfl⟩
end Hu
open Go.RowKit
open Hu (Rw Hk)
open Ed (Ch)

theorem blk_ne {w : World} {x y : Nat} {c1 c2 : Array Value} {t1 t2 : TypeId} (h1 : w.heap[x]? = some (.cells c1 t1)) (h2 : w.heap[y]? = some (.cells c2 t2)) (h : t1 ≠ t2) : x ≠ y := by
  rintro rfl
  rw [h1] at h2
  injection h2 with e
  injection e with _ e2
  exact h e2
theorem below_drew {B : Nat} {w w' : World} (h : Below B w w') : Below B w w'.drew := ⟨h.os, h.tape, h.output, h.size, h.block⟩
theorem Kept.of_below {X : Nat → Prop} {w w' : World} (h : Below w.heap.size w w') : Kept X w w' := ⟨h.os, h.tape, h.output, h.size, fun g hg _ => h.block g hg⟩
theorem Kept.on {X : Nat → Prop} {w w1 w2 : World} (h : Kept X w w1) (hb : Below w1.heap.size w1 w2) : Kept X w w2 := ⟨hb.os.trans h.os, hb.tape.trans h.tape, hb.output.trans h.output, Nat.le_trans h.size hb.size, fun g hg hx => (hb.block g (Nat.lt_of_lt_of_le hg h.size)).trans (h.block g hg hx)⟩
theorem Kept.set {X : Nat → Prop} {w w1 : World} {g k : Nat} {u : Value} (h : Kept X w w1) (hg : X g ∨ w.heap.size ≤ g) : Kept X w (w1.setCell ⟨g, k, none⟩ u) := by
  have hs := below_set (k := k) (u := u) (Below.refl 0 w1) (Nat.zero_le g)
  refine ⟨hs.os.trans h.os, hs.tape.trans h.tape, hs.output.trans h.output, Nat.le_trans h.size hs.size, fun q hq hx => (set_other _ (fun e => ?_)).trans (h.block q hq hx)⟩
  subst e
  rcases hg with hg | hg
  · exact hx hg
  · omega
theorem Kept.grown {X : Nat → Prop} {w w1 w2 : World} {o : Option Nat} (h : Kept X w w1) (hg : w1.grownBy w2 o) (ho : ∀ g, o = some g → X g ∨ w.heap.size ≤ g) : Kept X w w2 := by
  have hb := (Below.refl 0 w1).grown hg (Nat.zero_le _) (fun _ _ => Nat.zero_le _)
  refine ⟨hb.os.trans h.os, hb.tape.trans h.tape, hb.output.trans h.output, Nat.le_trans h.size hb.size, fun q hq hx => (hg.block q (Nat.lt_of_lt_of_le hq h.size) (fun e => ?_)).trans (h.block q hq hx)⟩
  rcases ho q e.symm with h1 | h1
  · exact hx h1
  · omega
theorem cell_set_far {w : World} {g k q k' : Nat} {u : Value} (h : q ≠ g) : (w.setCell ⟨g, k, none⟩ u).cell? ⟨q, k', none⟩ = w.cell? ⟨q, k', none⟩ := by
  unfold World.cell?
  rw [show (⟨q, k', none⟩ : Addr).block = q from rfl, set_other _ h]
theorem cell_alloc_old {w : World} {o : Obj} {q k : Nat} (h : q < w.heap.size) : (w.alloc o).cell? ⟨q, k, none⟩ = w.cell? ⟨q, k, none⟩ := ((Below.refl w.heap.size w).alloc (Nat.le_refl _) o).cell (p := ⟨q, k, none⟩) h
theorem own_ne {w : World} {B n size x : Nat} {e t : TypeId} {v : Value} {xs : List Value} {cs : Array Value} (h : w.ownsRow B e size v n xs) (hx : w.heap[x]? = some (.cells cs t)) (hne : e ≠ t) : v.ownBlock ≠ some x := by
  intro e9
  rcases h.2 with ⟨hv, _⟩ | ⟨g, cap, cur, hv, _, hh, _⟩
  · subst hv; cases e9
  · subst hv
    have e2 : g = x := Option.some.inj e9
    subst e2
    rw [hh] at hx
    injection hx with e3
    injection e3 with _ e4 _
    exact hne e4
theorem wpList_append_chL {w : World} {ops : Array Oper} {rest : List Oper} {o : Oper} {a : Act} {Q : Exit → Act → World → Prop} (hgd : o.guard = none) (s x : Operand)
    (ho : o.op = .call { callee := .builtin .append, args := #[s, x], argTypes := #[22, 22] }) (B : Nat) (v : Value) (l : List Ch) (hs : a.eval s = v) (hown : OwnC w B v l)
    (g : Nat) (c : Ch) (hx : a.eval x = .slice (some ⟨g, 0, none⟩) 1 1) (hg : w.heap[g]? = some (.cells #[.int .i64 c.a, .int .i64 c.n, .int .i64 c.b, .int .i64 c.m] 42)) (hfit : l.length < 4000000000000) (hB : B ≤ w.heap.size)
    (h : ∀ v' w', OwnC w' B v' (l ++ [c]) → w.grownBy w' v.ownBlock → Lies w v v' → wpList Tryz.prog ops Q rest (a.put o.dst v') w') : wpList Tryz.prog ops Q (o :: rest) a w := by
  obtain ⟨i0, hi, hz0, hz1, hz2⟩ := info_parts Tryz.infoChange
  refine wpList_append_lies _ hgd s x 22 ho B 42 i0 (.agg #[.int .i64 0, .int .i64 0, .int .i64 0, .int .i64 0]) 4 32 Tryz.underlying22 hi hz0 hz1 hz2 rfl (by decide) v l.length (csC l) hs hown ⟨g, 0, none⟩ 1 1 (cC c) hx rfl ?_ ?_ (by decide) ?_ ?_ hB w.heap.size rfl ?_
  · exact World.news_of_block (cs := #[.int .i64 c.a, .int .i64 c.n, .int .i64 c.b, .int .i64 c.m]) hg
  · have := csC_one [c]
    simpa [csC] using this
  · unfold maxLen; omega
  · omega
  · intro g' cap w' g2 g3 g4 _
    refine h _ w' ?_ g3 ?_
    · show w'.ownsRow _ _ _ _ _ _
      rw [List.length_append, csC_append]
      have e : csC [c] = cC c := by simp [csC]
      rw [e]; exact g2
    · intro k hk
      cases hk
      rcases g4 with g4 | g4
      · exact .inl g4
      · exact .inr (Nat.le_of_eq g4.symm)
/-- the spot that Script's function makes -/
def EndI (w wc : World) (Eb : Nat) (x y : Int) : Prop := wc.heap[Eb]? = some (.cells #[.int .i64 x, .int .i64 y] 78) ∧ w.heap.size ≤ Eb ∧ Below w.heap.size w wc
/-- what Script's function keeps -/
structure ScI (h : Hk) (vr : Value) (p q : Int) (C0 : List Ch) (Bc ab hb db cb : Nat) (d : List (Nat × Nat)) (X : Nat → Prop) (w : World) : Prop where
  at_ : w.heap[ab]? = some (.cells #[.int .i64 (p + (Hu.olds (h.rows.take (Hu.dnOf d))).length), .int .i64 (q + (Hu.fres (h.rows.take (Hu.dnOf d))).length)] 78)
  hk : w.heap[hb]? = some (.cells #[.int .i64 h.a, .int .i64 h.n, .int .i64 h.b, .int .i64 h.m, .string h.head, vr] 37)
  dn : w.heap[db]? = some (.cells #[.int .i64 (Hu.dnOf d : Nat)] 3)
  ch : ∃ v, w.heap[cb]? = some (.cells #[v] 22) ∧ OwnC w Bc v (C0 ++ d.map (Hu.chOf p q h.rows)) ∧ ∀ g, X g ↔ g = ab ∨ g = db ∨ g = cb ∨ v.ownBlock = some g
set_option maxHeartbeats 1500000 in
set_option maxRecDepth 100000 in
theorem scriptF_any {w : World} {h : Hk} {vr : Value} {p q : Int} {C0 : List Ch} {Bc ab hb db cb B f t : Nat} {d : List (Nat × Nat)} {X : Nat → Prop} (hI : ScI h vr p q C0 Bc ab hb db cb d X w) (hr : RdW w vr h.rows) (hu : Under B vr) (hl : h.rows.length < 5864062014800) (hk : Kd h.rows) (hp0 : 0 ≤ p) (hp1 : p ≤ 4294967296) (hq0 : 0 ≤ q) (hq1 : q ≤ 4294967296)
    (hB : B ≤ ab ∧ B ≤ db ∧ B ≤ cb ∧ B ≤ Bc) (hBc : Bc ≤ w.heap.size) (hfr : Hu.dnOf d ≤ f ∧ f < t ∧ t ≤ h.rows.length) (hC : C0.length + d.length < 2000000000000) :
    Calls Tryz.prog 38 #[spV (f, t), .pointer (some ⟨ab, 0, none⟩), .pointer (some ⟨hb, 0, none⟩), .pointer (some ⟨db, 0, none⟩), .pointer (some ⟨cb, 0, none⟩)] w fun e w' => e = .returned (.tuple #[]) ∧ Kept X w w' ∧ ∃ X', (∀ g, X' g → X g ∨ w.heap.size ≤ g) ∧ ScI h vr p q C0 Bc ab hb db cb (d ++ [(f, t)]) X' w' := by
  obtain ⟨i1, i2, i3, vc, i4, i5, i6⟩ := hI
  obtain ⟨av, cv, rfl⟩ := hr.shape
  obtain ⟨ha', hn', hb', hm', hh', L⟩ := h
  dsimp only at i1 i2 i3 i5 hr hl hk hfr hu ⊢
  obtain ⟨D, hD⟩ : ∃ D, D = Hu.dnOf d := ⟨_, rfl⟩
  rw [← hD] at i1 i3 hfr
  obtain ⟨n, hn⟩ : ∃ n, n = L.length := ⟨_, rfl⟩
  have HN := hid hn
  have hcap := rd_cap hr
  have hr2 := hr
  rw [← hn] at hr2 hl hfr hcap hu i2 ⊢
  obtain ⟨f1, f2, f3⟩ := hfr
  -- distinct blocks
  have nab_db : ab ≠ db := blk_ne i1 i3 (by decide)
  have nab_hb : ab ≠ hb := blk_ne i1 i2 (by decide)
  have nab_cb : ab ≠ cb := blk_ne i1 i4 (by decide)
  have ndb_hb : db ≠ hb := blk_ne i3 i2 (by decide)
  have ndb_cb : db ≠ cb := blk_ne i3 i4 (by decide)
  have ncb_hb : cb ≠ hb := blk_ne i4 i2 (by decide)
  have hX1 : ∀ g, ¬ X g → g ≠ ab ∧ g ≠ db ∧ g ≠ cb ∧ vc.ownBlock ≠ some g := fun g hg => ⟨fun e => hg ((i6 g).2 (.inl e)), fun e => hg ((i6 g).2 (.inr (.inl e))), fun e => hg ((i6 g).2 (.inr (.inr (.inl e)))), fun e => hg ((i6 g).2 (.inr (.inr (.inr e))))⟩
  have HX1 := hid hX1
  have HX6 := hid i6
  obtain ⟨e1, e2⟩ := Hu.olds_take_sub (l := L) f1
  obtain ⟨e3, e4⟩ := Hu.olds_take_sub (l := L) (Nat.le_of_lt f2)
  have hol := Hu.olds_len (L.take t)
  have hfl := Hu.fres_len (L.take t)
  have htl : (L.take t).length ≤ n := by rw [hn]; exact List.length_take_le' _ _
  obtain ⟨O1, hO1⟩ : ∃ O1 : Int, O1 = p + (Hu.olds (L.take D)).length := ⟨_, rfl⟩
  obtain ⟨F1, hF1⟩ : ∃ F1 : Int, F1 = q + (Hu.fres (L.take D)).length := ⟨_, rfl⟩
  obtain ⟨O2, hO2⟩ : ∃ O2 : Int, O2 = p + (Hu.olds (L.take f)).length := ⟨_, rfl⟩
  obtain ⟨F2, hF2⟩ : ∃ F2 : Int, F2 = q + (Hu.fres (L.take f)).length := ⟨_, rfl⟩
  obtain ⟨O3, hO3⟩ : ∃ O3 : Int, O3 = p + (Hu.olds (L.take t)).length := ⟨_, rfl⟩
  obtain ⟨F3, hF3⟩ : ∃ F3 : Int, F3 = q + (Hu.fres (L.take t)).length := ⟨_, rfl⟩
  rw [← hO1, ← hF1] at i1
  have hkd : ∀ x y, Kd ((L.drop x).take y) := fun x y r hr => hk r (List.mem_of_mem_drop (List.mem_of_mem_take hr))
  have hsl : ∀ x y, ((L.drop x).take y).length < 5864062014800 := fun x y => by rw [List.length_take, List.length_drop]; omega
  -- the two counts
  have HC1 := hid (fun w1 (hr1 : RdW w1 (.slice av L.length cv) L) => behind_any (x := O1) (y := F1) (rdW_sliced hr1 (x := D) (y := f) f1 (by omega)) (hsl _ _) (hkd _ _) (by omega) (by omega) (by omega) (by omega))
  have HC2 := hid (fun w1 (hr1 : RdW w1 (.slice av L.length cv) L) => behind_any (x := O2) (y := F2) (rdW_sliced hr1 (x := f) (y := t) (Nat.le_of_lt f2) (by omega)) (hsl _ _) (hkd _ _) (by omega) (by omega) (by omega) (by omega))
  have q1 : O1 + (Hu.olds ((L.drop D).take (f - D))).length = O2 ∧ F1 + (Hu.fres ((L.drop D).take (f - D))).length = F2 := by unfold Hu.sub at e1 e2; omega
  have q2 : O2 + (Hu.olds ((L.drop f).take (t - f))).length = O3 ∧ F2 + (Hu.fres ((L.drop f).take (t - f))).length = F3 := by unfold Hu.sub at e3 e4; omega
  rw [q1.1, q1.2] at HC1
  rw [q2.1, q2.2] at HC2
  have HCH : Hid (Hu.chOf p q L (f, t) = ⟨O2, O3 - O2, F2, F3 - F2⟩) := hid (by unfold Hu.chOf; refine Ed.Ch.ext' hO2.symm ?_ hF2.symm ?_ <;> simp only <;> omega)
  have hO2b : 0 ≤ O2 ∧ O2 ≤ 5868357000000 ∧ 0 ≤ F2 ∧ F2 ≤ 5868357000000 := by omega
  have hO3b : 0 ≤ O3 ∧ O3 ≤ 5868357000000 ∧ 0 ≤ F3 ∧ F3 ≤ 5868357000000 := by omega
  have HO3 := hid hO3
  have HF3 := hid hF3
  unfold SpV at HC1 HC2
  rw [if_neg (show ¬ cv = f by omega)] at HC2
  rw [if_neg (show ¬ cv = D by omega)] at HC1
  obtain ⟨A1, hA1⟩ : ∃ A1, Option.map (fun x : Addr => x.add (D * 2)) av = A1 := ⟨_, rfl⟩
  obtain ⟨A2, hA2⟩ : ∃ A2, Option.map (fun x : Addr => x.add (f * 2)) av = A2 := ⟨_, rfl⟩
  rw [hA1] at HC1
  rw [hA2] at HC2
  have HD := hid hD
  clear hD hn
  clear q1 q2 e1 e2 e3 e4 hol hfl htl hO1 hF1 hO2 hF2 hO3 hF3 hkd hsl hX1
  unfold spV
  dsimp only
  go_enter Tryz.func38, Tryz.ntmps38
  have hbn := (Below.refl w.heap.size w).alloc (Nat.le_refl _) (.cells #[.int .i64 f, .int .i64 t] 75)
  have hkn := heap_alloc_new w (.cells #[.int .i64 f, .int .i64 t] 75)
  go_wp2_with fail
  obtain ⟨G, hG⟩ : ∃ G, G = w.heap.size := ⟨_, rfl⟩
  rw [← hG] at hkn ⊢
  have HG := hid hG
  clear hG
  generalize w.alloc (.cells #[.int .i64 f, .int .i64 t] 75) = w1 at hbn hkn ⊢
  have j1 := (hbn.block ab (lt_of_heap i1)).trans i1
  have j2 := (hbn.block hb (lt_of_heap i2)).trans i2
  have j3 := (hbn.block db (lt_of_heap i3)).trans i3
  have j4 := (hbn.block cb (lt_of_heap i4)).trans i4
  have a0 : w1.cell? ⟨ab, 0, none⟩ = some (.int .i64 O1) := cell_of_blk j1 0
  have a1 : w1.cell? ⟨ab, 1, none⟩ = some (.int .i64 F1) := cell_of_blk j1 1
  have b5 : w1.cell? ⟨hb, 5, none⟩ = some (.slice av n cv) := cell_of_blk j2 5
  have d0 : w1.cell? ⟨db, 0, none⟩ = some (.int .i64 D) := cell_of_blk j3 0
  have g0 : w1.cell? ⟨G, 0, none⟩ = some (.int .i64 f) := cell_of_blk hkn 0
  have g1 : w1.cell? ⟨G, 1, none⟩ = some (.int .i64 t) := cell_of_blk hkn 1
  have z1 : (0 : Int) ≤ (D : Int) := by omega
  have z2 : (D : Int) ≤ (f : Int) := by omega
  have z3 : (f : Int) ≤ (cv : Int) := by omega
  have z4 : (f : Int) ≤ (t : Int) := by omega
  have z5 : (t : Int) ≤ (cv : Int) := by omega
  have z6 : (0 : Int) ≤ (f : Int) := by omega
  refine wp_region_qtail 7 (by kernel_rfl) (by kernel_rfl) ?_
  simp only [List.take_succ_cons, List.take_zero, List.drop_succ_cons, List.drop_zero]
  repeat go_big_quiet_step (fail)
  refine wpQuiet_nil ?_
  have HB1 := hid (below_drewN hbn 1)
  have HN1 := hid (below_drewN (Below.refl w1.heap.size w1) 1)
  have k1 := (HN1.out.block ab (lt_of_heap j1)).trans j1
  have k2 := (HN1.out.block hb (lt_of_heap j2)).trans j2
  have k3 := (HN1.out.block db (lt_of_heap j3)).trans j3
  have k4 := (HN1.out.block cb (lt_of_heap j4)).trans j4
  have kG := (HN1.out.block G (lt_of_heap hkn)).trans hkn
  clear a0 a1 b5 d0 g0 g1 j1 j2 j3 j4 hbn hkn HN1
  generalize w1.drewN 1 = w2 at HB1 k1 k2 k3 k4 kG ⊢
  have HP1 := hid (HC1.out w2 (hr.below HB1.out))
  have HXA : Hid (X ab ∧ X db ∧ X cb) := hid ⟨(HX6.out ab).2 (.inl rfl), (HX6.out db).2 (.inr (.inl rfl)), (HX6.out cb).2 (.inr (.inr (.inl rfl)))⟩
  have HXB : Hid (∀ g, X g → B ≤ g) := hid (fun g hg => by
    rcases (HX6.out g).1 hg with rfl | rfl | rfl | hg
    · exact hB.1
    · exact hB.2.1
    · exact hB.2.2.1
    · exact Nat.le_trans hB.2.2.2 (own_ge i5 g hg))
  have HBw : Hid (B ≤ w.heap.size) := hid (Nat.le_trans hB.2.2.2 hBc)
  have HI5 := hid i5
  have HRr := hid hr
  have HON : Hid (vc.ownBlock ≠ some ab ∧ vc.ownBlock ≠ some db ∧ vc.ownBlock ≠ some cb ∧ vc.ownBlock ≠ some hb) := hid ⟨own_ne i5 i1 (by decide), own_ne i5 i3 (by decide), own_ne i5 i4 (by decide), own_ne i5 i2 (by decide)⟩
  clear i1 i2 i3 i4 i5 i6 hr hr2 hk
  go_wp2_with fail
  refine HP1.out.mono ?_
  rintro e w3 ⟨rfl, hb3⟩
  have m1 := (hb3.block ab (lt_of_heap k1)).trans k1
  have m2 := (hb3.block hb (lt_of_heap k2)).trans k2
  have m3 := (hb3.block db (lt_of_heap k3)).trans k3
  have m4 := (hb3.block cb (lt_of_heap k4)).trans k4
  have mG := (hb3.block G (lt_of_heap kG)).trans kG
  have HK3 : Hid (Kept X w w3) := hid ((Kept.of_below HB1.out).on hb3)
  have HKA3 : Hid (Kept (fun g => g = ab) w w3) := hid ((Kept.of_below HB1.out).on hb3)
  clear k1 k2 k3 k4 kG hb3 HB1 HP1 HC1
  have y0 : w3.cell? ⟨ab, 0, none⟩ = some (.int .i64 O1) := cell_of_blk m1 0
  have y1 : w3.cell? ⟨ab, 1, none⟩ = some (.int .i64 F1) := cell_of_blk m1 1
  have yf : ∀ j, w3.frozen? ⟨ab, j, none⟩ = false := fun j => frozen_of_blk m1 j
  have n1 := set_heap _ ab 1 _ _ (.int .i64 F2) (set_heap _ ab 0 _ _ (.int .i64 O2) m1)
  have n2 := (set_other (w3.setCell ⟨ab, 0, none⟩ (.int .i64 O2)) (k := 1) (u := .int .i64 F2) (Ne.symm nab_hb)).trans ((set_other w3 (k := 0) (u := .int .i64 O2) (Ne.symm nab_hb)).trans m2)
  have n3 := (set_other (w3.setCell ⟨ab, 0, none⟩ (.int .i64 O2)) (k := 1) (u := .int .i64 F2) (Ne.symm nab_db)).trans ((set_other w3 (k := 0) (u := .int .i64 O2) (Ne.symm nab_db)).trans m3)
  have n4 := (set_other (w3.setCell ⟨ab, 0, none⟩ (.int .i64 O2)) (k := 1) (u := .int .i64 F2) (Ne.symm nab_cb)).trans ((set_other w3 (k := 0) (u := .int .i64 O2) (Ne.symm nab_cb)).trans m4)
  have hGa : G ≠ ab := blk_ne mG m1 (by decide)
  have nG := (set_other (w3.setCell ⟨ab, 0, none⟩ (.int .i64 O2)) (k := 1) (u := .int .i64 F2) hGa).trans ((set_other w3 (k := 0) (u := .int .i64 O2) hGa).trans mG)
  have HK4 := hid ((HK3.out.set (k := 0) (u := .int .i64 O2) (.inl HXA.out.1)).set (k := 1) (u := .int .i64 F2) (.inl HXA.out.1))
  have HKA4 := hid ((HKA3.out.set (k := 0) (u := .int .i64 O2) (.inl rfl)).set (k := 1) (u := .int .i64 F2) (.inl rfl))
  clear HK3 HKA3
  go_wp2_with fail
  generalize (w3.setCell ⟨ab, 0, none⟩ (.int .i64 O2)).setCell ⟨ab, 1, none⟩ (.int .i64 F2) = w4 at n1 n2 n3 n4 nG HK4 HKA4 ⊢
  clear m1 m2 m3 m4 mG y0 y1 yf hGa
  have a0 : w4.cell? ⟨ab, 0, none⟩ = some (.int .i64 O2) := cell_of_blk n1 0
  have a1 : w4.cell? ⟨ab, 1, none⟩ = some (.int .i64 F2) := cell_of_blk n1 1
  have b5 : w4.cell? ⟨hb, 5, none⟩ = some (.slice av n cv) := cell_of_blk n2 5
  have g0 : w4.cell? ⟨G, 0, none⟩ = some (.int .i64 f) := cell_of_blk nG 0
  have g1 : w4.cell? ⟨G, 1, none⟩ = some (.int .i64 t) := cell_of_blk nG 1
  have HR4 : Hid (RdW w4 (.slice av L.length cv) L) := hid (HRr.out.keep (by rw [← HN.out]; exact hu) (HK4.out.below HXB.out HBw.out))
  have N1 := hid n1
  have N2 := hid n2
  have N3 := hid n3
  have N4 := hid n4
  have NG := hid nG
  clear n1 n2 n3 n4 nG
  have hAL := (Below.refl w4.heap.size w4).alloc (Nat.le_refl _) (.cells #[.int .i64 0, .int .i64 0] 78)
  have hlA : ab < w4.heap.size := lt_of_heap N1.out
  have hlH : hb < w4.heap.size := lt_of_heap N2.out
  have hlG : G < w4.heap.size := lt_of_heap NG.out
  have HA0 := hid a0
  have HA1 := hid a1
  have HB5 := hid b5
  have HG0 := hid g0
  have HG1 := hid g1
  have u1 := World.new_ne w4 _ a0
  have u2 := World.new_ne w4 _ a1
  have u3 := World.new_ne w4 _ b5
  have u4 := World.new_ne w4 _ g0
  have u5 := World.new_ne w4 _ g1
  have HBD := hid (below_drew (Below.refl w4.heap.size w4))
  have HBA := hid (below_drew hAL)
  have HAL := hid hAL
  have HNW := hid (heap_alloc_new w4 (.cells #[.int .i64 0, .int .i64 0] 78))
  clear hAL
  have hcf : ¬ cv = f := by omega
  go_cut [6] (fun x wc => ∃ Eb : Nat, x = .pointer (some ⟨Eb, 0, none⟩) ∧ Hid (EndI w4 wc Eb O3 F3))
  case first =>
    go_region_held3 (fun w' => w'.cell? ⟨ab, 0, none⟩ = some (.int .i64 O2) ∧ w'.cell? ⟨ab, 1, none⟩ = some (.int .i64 F2) ∧ w'.cell? ⟨hb, 5, none⟩ = some (.slice av n cv) ∧ w'.cell? ⟨G, 0, none⟩ = some (.int .i64 f) ∧ w'.cell? ⟨G, 1, none⟩ = some (.int .i64 t))
      (first
        | (go_split_ands
           refine ⟨?_, ?_, ?_, ?_, ?_⟩ <;> with_reducible exact (hbk.cell (lt_of_cell (by assumption))).trans (by assumption))
        | (go_split_ands
           refine ⟨?_, ?_, ?_, ?_, ?_⟩ <;> with_reducible assumption)
        | with_reducible exact ⟨(cell_alloc_old (Nat.lt_of_lt_of_le hlA hl5)).trans ((HBK.out.cell (p := ⟨ab, 0, none⟩) hlA).trans HA0.out), (cell_alloc_old (Nat.lt_of_lt_of_le hlA hl5)).trans ((HBK.out.cell (p := ⟨ab, 1, none⟩) hlA).trans HA1.out), (cell_alloc_old (Nat.lt_of_lt_of_le hlH hl5)).trans ((HBK.out.cell (p := ⟨hb, 5, none⟩) hlH).trans HB5.out), (cell_alloc_old (Nat.lt_of_lt_of_le hlG hl5)).trans ((HBK.out.cell (p := ⟨G, 0, none⟩) hlG).trans HG0.out), (cell_alloc_old (Nat.lt_of_lt_of_le hlG hl5)).trans ((HBK.out.cell (p := ⟨G, 1, none⟩) hlG).trans HG1.out)⟩
        | with_reducible exact ⟨(cell_set_far (Nat.ne_of_lt hlA)).trans ((cell_set_far (Nat.ne_of_lt hlA)).trans ((HBK.out.2.cell (p := ⟨ab, 0, none⟩) hlA).trans HA0.out)), (cell_set_far (Nat.ne_of_lt hlA)).trans ((cell_set_far (Nat.ne_of_lt hlA)).trans ((HBK.out.2.cell (p := ⟨ab, 1, none⟩) hlA).trans HA1.out)), (cell_set_far (Nat.ne_of_lt hlH)).trans ((cell_set_far (Nat.ne_of_lt hlH)).trans ((HBK.out.2.cell (p := ⟨hb, 5, none⟩) hlH).trans HB5.out)), (cell_set_far (Nat.ne_of_lt hlG)).trans ((cell_set_far (Nat.ne_of_lt hlG)).trans ((HBK.out.2.cell (p := ⟨G, 0, none⟩) hlG).trans HG0.out)), (cell_set_far (Nat.ne_of_lt hlG)).trans ((cell_set_far (Nat.ne_of_lt hlG)).trans ((HBK.out.2.cell (p := ⟨G, 1, none⟩) hlG).trans HG1.out))⟩
        | go_keep)
      (first
        | (go_at_call 39; refine (HC2.out _ (HR4.out.below (by with_reducible exact HBD.out))).mono ?_; rintro e w5 ⟨rfl, hbk⟩; have HBK : Hid (Below w4.heap.size w4 w5) := hid ((below_drew (Below.refl w4.heap.size w4)).trans hbk); have hl5 := HBK.out.size; have v1 := World.new_ne w5 _ ((HBK.out.cell (p := ⟨ab, 0, none⟩) hlA).trans a0); have v2 := World.new_ne w5 _ ((HBK.out.cell (p := ⟨ab, 1, none⟩) hlA).trans a1); have v3 := World.new_ne w5 _ ((HBK.out.cell (p := ⟨hb, 5, none⟩) hlH).trans b5); have v4 := World.new_ne w5 _ ((HBK.out.cell (p := ⟨G, 0, none⟩) hlG).trans g0); have v5 := World.new_ne w5 _ ((HBK.out.cell (p := ⟨G, 1, none⟩) hlG).trans g1))
        | (go_at_call 39; refine (HC2.out _ (HR4.out.below (by with_reducible exact HBA.out))).mono ?_; rintro e w5 ⟨rfl, hbk⟩; have HBK : Hid (w5.heap[w4.heap.size]? = some (.cells #[.int .i64 0, .int .i64 0] 78) ∧ Below w4.heap.size w4 w5) := hid ⟨(hbk.block w4.heap.size (lt_of_heap HNW.out)).trans HNW.out, (below_drew HAL.out).trans (hbk.mono (below_drew HAL.out).size)⟩; have t0 : w5.cell? ⟨w4.heap.size, 0, none⟩ = some (.int .i64 0) := cell_of_blk HBK.out.1 0; have t1 : w5.cell? ⟨w4.heap.size, 1, none⟩ = some (.int .i64 0) := cell_of_blk HBK.out.1 1; have tf : ∀ j, w5.frozen? ⟨w4.heap.size, j, none⟩ = false := fun j => frozen_of_blk HBK.out.1 j))
    · go_wp2_with fail
      go_meet
      exact ⟨_, rfl, hid ⟨heap_alloc_new w5 _, HBK.out.size, HBK.out.alloc HBK.out.size _⟩⟩
    · go_wp2_with fail
      go_meet
      exact ⟨_, rfl, hid ⟨set_heap _ w4.heap.size 1 _ _ (.int .i64 F3) (set_heap _ w4.heap.size 0 _ _ (.int .i64 O3) HBK.out.1), Nat.le_refl _, below_set (below_set HBK.out.2 (Nat.le_refl _)) (Nat.le_refl _)⟩⟩
  case rest =>
    obtain ⟨Eb, rfl, HEI⟩ := hcut
    obtain ⟨w6, hw6⟩ : ∃ z, z = wc := ⟨_, rfl⟩
    subst hw6
    obtain ⟨E1, E2, E3⟩ := HEI.out
    have n1 := (E3.block ab (lt_of_heap N1.out)).trans N1.out
    have n2 := (E3.block hb (lt_of_heap N2.out)).trans N2.out
    have n3 := (E3.block db (lt_of_heap N3.out)).trans N3.out
    have n4 := (E3.block cb (lt_of_heap N4.out)).trans N4.out
    have nG := (E3.block G (lt_of_heap NG.out)).trans NG.out
    have HK6 := hid (HK4.out.on E3)
    have HW6 : Hid (OwnC w6 Bc vc (C0 ++ d.map (Hu.chOf p q L))) := hid (own_far HI5.out (fun g hg => (HKA4.out.on E3).block g (own_lt HI5.out g hg) (fun e => HON.out.1 (e ▸ hg))))
    have nEa : Eb ≠ ab := by omega
    have nEd : Eb ≠ db := by have := lt_of_heap N3.out; omega
    have nEc : Eb ≠ cb := by have := lt_of_heap N4.out; omega
    have nGa : G ≠ ab := blk_ne nG n1 (by decide)
    have nGd : G ≠ db := blk_ne nG n3 (by decide)
    have nGc : G ≠ cb := blk_ne nG n4 (by decide)
    have HEb : Hid (w.heap.size ≤ Eb) := hid (Nat.le_trans HK4.out.size E2)
    have HGb : Hid (w.heap.size ≤ G) := hid (Nat.le_of_eq HG.out.symm)
    clear a0 a1 b5 g0 g1 u1 u2 u3 u4 u5 hlA hlH hlG N1 N2 N3 N4 NG HA0 HA1 HB5 HG0 HG1 HBD HBA HAL HNW HC2 HR4 HEI HK4 E3 E2
    have a0 : w6.cell? ⟨ab, 0, none⟩ = some (.int .i64 O2) := cell_of_blk n1 0
    have a1 : w6.cell? ⟨ab, 1, none⟩ = some (.int .i64 F2) := cell_of_blk n1 1
    have e0 : w6.cell? ⟨Eb, 0, none⟩ = some (.int .i64 O3) := cell_of_blk E1 0
    have e1 : w6.cell? ⟨Eb, 1, none⟩ = some (.int .i64 F3) := cell_of_blk E1 1
    have c0 : w6.cell? ⟨cb, 0, none⟩ = some vc := cell_of_blk n4 0
    have s1 : IntKind.i64.wrap (O3 - O2) = O3 - O2 := wrapOk (by omega) (by omega)
    have s2 : IntKind.i64.wrap (F3 - F2) = F3 - F2 := wrapOk (by omega) (by omega)
    clear HI5
    have HLC := hid (congrArg List.length (rfl : C0 ++ d.map (Hu.chOf p q L) = C0 ++ d.map (Hu.chOf p q L)))
    have hLL : (C0 ++ d.map (Hu.chOf p q L)).length < 4000000000000 := by rw [List.length_append, List.length_map]; omega
    have HLE : Hid ((C0 ++ d.map (Hu.chOf p q L)) ++ [⟨O2, O3 - O2, F2, F3 - F2⟩] = C0 ++ (d ++ [(f, t)]).map (Hu.chOf p q L)) := hid (by rw [List.map_append, List.map_singleton, HCH.out, List.append_assoc])
    generalize C0 ++ d.map (Hu.chOf p q L) = L0 at HW6 hLL HLE
    obtain ⟨ac, cc, e9⟩ := own_shape HW6.out
    subst e9
    have hbN := (Below.refl w6.heap.size w6).alloc (Nat.le_refl _) (.cells #[.int .i64 O2, .int .i64 (O3 - O2), .int .i64 F2, .int .i64 (F3 - F2)] 42)
    have HBN := hid hbN
    have HW7 := hid (own_stays HW6.out hbN)
    have HBc6 : Hid (Bc ≤ (w6.alloc (.cells #[.int .i64 O2, .int .i64 (O3 - O2), .int .i64 F2, .int .i64 (F3 - F2)] 42)).heap.size) := hid (Nat.le_trans hBc (Nat.le_trans HK6.out.size hbN.size))
    clear hbN HLC
    obtain ⟨L1, hL1⟩ : ∃ L1, L1 = C0 ++ (d ++ [(f, t)]).map (Hu.chOf p q L) := ⟨_, rfl⟩
    have HL1 := hid hL1
    rw [← hL1] at HLE
    clear hL1
    have M1 := hid n1
    have M2 := hid n2
    have M3 := hid n3
    have M4 := hid n4
    have MG := hid nG
    have ME := hid E1
    have hzz : ∀ j, w6.frozen? ⟨cb, j, none⟩ = false := fun j => frozen_of_blk n4 j
    clear n1 n2 n3 n4 nG E1
    go_wp2_with (at_builtin; refine wpList_append_chL rfl _ _ rfl Bc _ L0 rfl HW7.out w6.heap.size ⟨O2, O3 - O2, F2, F3 - F2⟩ rfl (heap_alloc_new w6 _) hLL HBc6.out ?_; intro v7 w7 hO7 hg7 hl7; rw [HLE.out] at hO7; obtain ⟨a7, k7, e7⟩ := own_shape hO7; subst e7; have HO7 := hid hO7; have HG7 := hid hg7; have HL7 := hid hl7; have P4 : w7.heap[cb]? = _ := (hg7.block cb (Nat.lt_of_lt_of_le (lt_of_heap M4.out) HBN.out.size) (fun e => HON.out.2.2.1 e.symm)).trans ((HBN.out.block cb (lt_of_heap M4.out)).trans M4.out); have c7 : w7.cell? ⟨cb, 0, none⟩ = some (.slice ac L0.length cc) := cell_of_blk P4 0; have z7 : ∀ j, w7.frozen? ⟨cb, j, none⟩ = false := fun j => frozen_of_blk P4 j; clear hO7 hg7 hl7)
    have HK7 : Hid (Kept X w w7) := hid ((HK6.out.on HBN.out).grown HG7.out (fun g hg => .inl ((HX6.out g).2 (.inr (.inr (.inr hg))))))
    have P1 : w7.heap[ab]? = _ := (HG7.out.block ab (Nat.lt_of_lt_of_le (lt_of_heap M1.out) HBN.out.size) (fun e => HON.out.1 e.symm)).trans ((HBN.out.block ab (lt_of_heap M1.out)).trans M1.out)
    have P2 : w7.heap[hb]? = _ := (HG7.out.block hb (Nat.lt_of_lt_of_le (lt_of_heap M2.out) HBN.out.size) (fun e => HON.out.2.2.2 e.symm)).trans ((HBN.out.block hb (lt_of_heap M2.out)).trans M2.out)
    have P3 : w7.heap[db]? = _ := (HG7.out.block db (Nat.lt_of_lt_of_le (lt_of_heap M3.out) HBN.out.size) (fun e => HON.out.2.1 e.symm)).trans ((HBN.out.block db (lt_of_heap M3.out)).trans M3.out)
    have HNG : Hid ((Value.slice ac L0.length cc).ownBlock ≠ some G ∧ (Value.slice ac L0.length cc).ownBlock ≠ some Eb) := hid ⟨own_ne HW6.out MG.out (by decide), own_ne HW6.out ME.out (by decide)⟩
    have PG : w7.heap[G]? = _ := (HG7.out.block G (Nat.lt_of_lt_of_le (lt_of_heap MG.out) HBN.out.size) (fun e => HNG.out.1 e.symm)).trans ((HBN.out.block G (lt_of_heap MG.out)).trans MG.out)
    have PE : w7.heap[Eb]? = _ := (HG7.out.block Eb (Nat.lt_of_lt_of_le (lt_of_heap ME.out) HBN.out.size) (fun e => HNG.out.2 e.symm)).trans ((HBN.out.block Eb (lt_of_heap ME.out)).trans ME.out)
    have R4 := set_heap _ cb 0 _ _ (.slice a7 L1.length k7) P4
    have R1 := (set_other w7 (k := 0) (u := .slice a7 L1.length k7) nab_cb).trans P1
    have R2 := (set_other w7 (k := 0) (u := .slice a7 L1.length k7) (Ne.symm ncb_hb)).trans P2
    have R3 := (set_other w7 (k := 0) (u := .slice a7 L1.length k7) ndb_cb).trans P3
    have RG := (set_other w7 (k := 0) (u := .slice a7 L1.length k7) nGc).trans PG
    have RE := (set_other w7 (k := 0) (u := .slice a7 L1.length k7) nEc).trans PE
    have HX8 : Hid (∀ g, (Value.slice a7 L1.length k7).ownBlock = some g → X g ∨ w.heap.size ≤ g) := hid (fun g hg => by
      rcases HL7.out g hg with h | h
      · exact .inl ((HX6.out g).2 (.inr (.inr (.inr h))))
      · exact .inr (Nat.le_trans (Nat.le_trans HK6.out.size HBN.out.size) h))
    have HN8 : Hid ((Value.slice a7 L1.length k7).ownBlock ≠ some ab ∧ (Value.slice a7 L1.length k7).ownBlock ≠ some db ∧ (Value.slice a7 L1.length k7).ownBlock ≠ some cb) := hid ⟨own_ne HO7.out P1 (by decide), own_ne HO7.out P3 (by decide), own_ne HO7.out P4 (by decide)⟩
    have HO8 : Hid (OwnC (w7.setCell ⟨cb, 0, none⟩ (.slice a7 L1.length k7)) Bc (.slice a7 L1.length k7) L1) := hid (own_far HO7.out (fun g hg => set_other _ (fun e => HN8.out.2.2 (e ▸ hg))))
    have HK8 : Hid (Kept X w (w7.setCell ⟨cb, 0, none⟩ (.slice a7 L1.length k7))) := hid (HK7.out.set (.inl HXA.out.2.2))
    clear P1 P2 P3 P4 PG PE c7 z7 M1 M2 M3 M4 MG ME HK7 HO7
    generalize w7.setCell ⟨cb, 0, none⟩ (.slice a7 L1.length k7) = w8 at R1 R2 R3 R4 RG RE HO8 HK8 ⊢
    have xa0 : w8.cell? ⟨ab, 0, none⟩ = some (.int .i64 O2) := cell_of_blk R1 0
    have xa1 : w8.cell? ⟨ab, 1, none⟩ = some (.int .i64 F2) := cell_of_blk R1 1
    have xaf : ∀ j, w8.frozen? ⟨ab, j, none⟩ = false := fun j => frozen_of_blk R1 j
    have xe0 : w8.cell? ⟨Eb, 0, none⟩ = some (.int .i64 O3) := cell_of_blk RE 0
    have xe1 : w8.cell? ⟨Eb, 1, none⟩ = some (.int .i64 F3) := cell_of_blk RE 1
    have xg1 : w8.cell? ⟨G, 1, none⟩ = some (.int .i64 t) := cell_of_blk RG 1
    have ya0 : w8.drew.cell? ⟨ab, 0, none⟩ = some (.int .i64 O2) := xa0
    have ya1 : w8.drew.cell? ⟨ab, 1, none⟩ = some (.int .i64 F2) := xa1
    have yaf : ∀ j, w8.drew.frozen? ⟨ab, j, none⟩ = false := xaf
    have ye0 : w8.drew.cell? ⟨Eb, 0, none⟩ = some (.int .i64 O3) := xe0
    have ye1 : w8.drew.cell? ⟨Eb, 1, none⟩ = some (.int .i64 F3) := xe1
    have yg1 : w8.drew.cell? ⟨G, 1, none⟩ = some (.int .i64 t) := xg1
    have T1 := set_heap _ ab 1 _ _ (.int .i64 F3) (set_heap _ ab 0 _ _ (.int .i64 O3) R1)
    have T2 := (set_other (w8.setCell ⟨ab, 0, none⟩ (.int .i64 O3)) (k := 1) (u := .int .i64 F3) (Ne.symm nab_hb)).trans ((set_other w8 (k := 0) (u := .int .i64 O3) (Ne.symm nab_hb)).trans R2)
    have T3 := (set_other (w8.setCell ⟨ab, 0, none⟩ (.int .i64 O3)) (k := 1) (u := .int .i64 F3) (Ne.symm nab_db)).trans ((set_other w8 (k := 0) (u := .int .i64 O3) (Ne.symm nab_db)).trans R3)
    have T4 := (set_other (w8.setCell ⟨ab, 0, none⟩ (.int .i64 O3)) (k := 1) (u := .int .i64 F3) (Ne.symm nab_cb)).trans ((set_other w8 (k := 0) (u := .int .i64 O3) (Ne.symm nab_cb)).trans R4)
    have TG := (set_other (w8.setCell ⟨ab, 0, none⟩ (.int .i64 O3)) (k := 1) (u := .int .i64 F3) nGa).trans ((set_other w8 (k := 0) (u := .int .i64 O3) nGa).trans RG)
    have HO10 : Hid (OwnC ((w8.setCell ⟨ab, 0, none⟩ (.int .i64 O3)).setCell ⟨ab, 1, none⟩ (.int .i64 F3)) Bc (.slice a7 L1.length k7) L1) := hid (own_far HO8.out (fun g hg => (set_other _ (fun e => HN8.out.1 (by rw [← e]; exact hg))).trans (set_other _ (fun e => HN8.out.1 (by rw [← e]; exact hg)))))
    have HK10 := hid ((HK8.out.set (k := 0) (u := .int .i64 O3) (.inl HXA.out.1)).set (k := 1) (u := .int .i64 F3) (.inl HXA.out.1))
    have xd0 : ((w8.setCell ⟨ab, 0, none⟩ (.int .i64 O3)).setCell ⟨ab, 1, none⟩ (.int .i64 F3)).cell? ⟨db, 0, none⟩ = some (.int .i64 D) := cell_of_blk T3 0
    have xdf : ∀ j, ((w8.setCell ⟨ab, 0, none⟩ (.int .i64 O3)).setCell ⟨ab, 1, none⟩ (.int .i64 F3)).frozen? ⟨db, j, none⟩ = false := fun j => frozen_of_blk T3 j
    have xg2 : ((w8.setCell ⟨ab, 0, none⟩ (.int .i64 O3)).setCell ⟨ab, 1, none⟩ (.int .i64 F3)).cell? ⟨G, 1, none⟩ = some (.int .i64 t) := cell_of_blk TG 1
    have yd0 : ((w8.setCell ⟨ab, 0, none⟩ (.int .i64 O3)).setCell ⟨ab, 1, none⟩ (.int .i64 F3)).drew.cell? ⟨db, 0, none⟩ = some (.int .i64 D) := xd0
    have ydf : ∀ j, ((w8.setCell ⟨ab, 0, none⟩ (.int .i64 O3)).setCell ⟨ab, 1, none⟩ (.int .i64 F3)).drew.frozen? ⟨db, j, none⟩ = false := xdf
    have yg2 : ((w8.setCell ⟨ab, 0, none⟩ (.int .i64 O3)).setCell ⟨ab, 1, none⟩ (.int .i64 F3)).drew.cell? ⟨G, 1, none⟩ = some (.int .i64 t) := xg2
    have V3 := hid (set_heap _ db 0 _ _ (.int .i64 (t : Nat)) T3)
    have V1 := hid ((set_other ((w8.setCell ⟨ab, 0, none⟩ (.int .i64 O3)).setCell ⟨ab, 1, none⟩ (.int .i64 F3)) (k := 0) (u := .int .i64 (t : Nat)) nab_db).trans T1)
    have V2 := hid ((set_other ((w8.setCell ⟨ab, 0, none⟩ (.int .i64 O3)).setCell ⟨ab, 1, none⟩ (.int .i64 F3)) (k := 0) (u := .int .i64 (t : Nat)) (Ne.symm ndb_hb)).trans T2)
    have V4 := hid ((set_other ((w8.setCell ⟨ab, 0, none⟩ (.int .i64 O3)).setCell ⟨ab, 1, none⟩ (.int .i64 F3)) (k := 0) (u := .int .i64 (t : Nat)) (Ne.symm ndb_cb)).trans T4)
    have HO11 : Hid (OwnC (((w8.setCell ⟨ab, 0, none⟩ (.int .i64 O3)).setCell ⟨ab, 1, none⟩ (.int .i64 F3)).setCell ⟨db, 0, none⟩ (.int .i64 (t : Nat))) Bc (.slice a7 L1.length k7) L1) := hid (own_far HO10.out (fun g hg => set_other _ (fun e => HN8.out.2.1 (by rw [← e]; exact hg))))
    have HK11 := hid (HK10.out.set (k := 0) (u := .int .i64 (t : Nat)) (.inl HXA.out.2.1))
    have HBD := hid (below_drew (Below.refl (((w8.setCell ⟨ab, 0, none⟩ (.int .i64 O3)).setCell ⟨ab, 1, none⟩ (.int .i64 F3)).setCell ⟨db, 0, none⟩ (.int .i64 (t : Nat))).heap.size (((w8.setCell ⟨ab, 0, none⟩ (.int .i64 O3)).setCell ⟨ab, 1, none⟩ (.int .i64 F3)).setCell ⟨db, 0, none⟩ (.int .i64 (t : Nat)))))
    clear HO8 HO10 HK8 HK10 R1 R2 R3 R4 RG RE T1 T2 T3 T4 TG s1 s2 hO2b hO3b hu hcap f1 f2 f3 z1 z2 z3 z4 z5 z6 hcf hA1 hA2 hLL hzz hl hC nEa nEd nEc nGa nGd nGc
    go_region
    all_goals go_wp2_with fail
    refine bodyPost_end (v := .tuple #[]) (by simp [results, Tryz.results38]) rfl ⟨rfl, HK11.out.on HBD.out, fun g => g = ab ∨ g = db ∨ g = cb ∨ (Value.slice a7 L1.length k7).ownBlock = some g, ?_, ?_⟩
    · rintro g (rfl | rfl | rfl | hg)
      · exact .inl HXA.out.1
      · exact .inl HXA.out.2.1
      · exact .inl HXA.out.2.2
      · exact HX8.out g hg
    · refine ⟨?_, ?_, ?_, _, (HBD.out.block cb (lt_of_heap V4.out)).trans V4.out, ?_, fun g => Iff.rfl⟩
      · rw [Hu.dnOf_app, ← HO3.out, ← HF3.out]; exact (HBD.out.block ab (lt_of_heap V1.out)).trans V1.out
      · exact (HBD.out.block hb (lt_of_heap V2.out)).trans V2.out
      · rw [Hu.dnOf_app]; exact (HBD.out.block db (lt_of_heap V3.out)).trans V3.out
      · rw [← HL1.out]; exact own_stays HO11.out HBD.out
end Go.Proofs.YtddmfdjkkikapaaGreatDoor
