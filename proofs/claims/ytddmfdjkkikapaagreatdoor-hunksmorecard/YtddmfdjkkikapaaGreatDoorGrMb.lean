/-
  Several texts in one: Mb, Mc.
-/
import Derived.Test.YtddmfdjkkikapaaGreatDoorGrLb
/-
  The walk of groups: rows of spans.
-/
namespace Go.Proofs.YtddmfdjkkikapaaGreatDoor
open Go.RowKit
open Hu (Rw Hk)
open Ed (Ch)

abbrev Sp := Nat × Nat
def spC1 (r : Sp) : List Value := [.int .i64 (r.1 : Nat), .int .i64 (r.2 : Nat)]
def spC (l : List Sp) : List Value := l.flatMap spC1
theorem spC_length (l : List Sp) : (spC l).length = l.length * 2 := by
  induction l with
  | nil => rfl
  | cons c l ih => show (spC1 c ++ spC l).length = _; rw [List.length_append, ih, List.length_cons]; show 2 + _ = _; omega
theorem spC_get {l : List Sp} {k : Nat} {c : Sp} (h : l[k]? = some c) (i : Nat) (hi : i < 2) : (spC l)[k * 2 + i]? = (spC1 c)[i]? := flat_get spC1 2 (fun _ => rfl) l k i c h hi
theorem spC_append (l m : List Sp) : spC (l ++ m) = spC l ++ spC m := List.flatMap_append
theorem spC_one (l : List Sp) : ∀ u ∈ spC l, u.oneCell' = true := by
  intro u hu
  obtain ⟨c, _, hc⟩ := List.mem_flatMap.1 hu
  unfold spC1 at hc
  simp at hc
  rcases hc with rfl | rfl <;> rfl
abbrev RdSp (w : World) (v : Value) (l : List Sp) : Prop := RdX w v l.length (spC l)
abbrev OwnSp (w : World) (B : Nat) (v : Value) (l : List Sp) : Prop := w.ownsRow B 75 2 v l.length (spC l)
theorem rdSp_at {w : World} {a : Option Addr} {n c : Nat} {l : List Sp} (h : RdSp w (.slice a n c) l) {k : Nat} {x : Sp} (hk : l[k]? = some x) :
    ∃ b o, a = some ⟨b, o, none⟩ ∧ b < w.heap.size ∧ w.cell? ⟨b, o + k * 2, none⟩ = some (.int .i64 (x.1 : Nat)) ∧ w.cell? ⟨b, o + k * 2 + 1, none⟩ = some (.int .i64 (x.2 : Nat)) := by
  rcases h with ⟨hn, _⟩ | ⟨b, o, c', hv, _, hb, hX⟩
  · rw [List.length_eq_zero_iff.1 hn] at hk; simp at hk
  · cases hv
    refine ⟨b, o, rfl, hb, ?_, ?_⟩
    · exact hX (k * 2) _ (spC_get hk 0 (by omega))
    · rw [Nat.add_assoc]; exact hX (k * 2 + 1) _ (spC_get hk 1 (by omega))
theorem Tryz.infoSpan : (Tryz.prog.info? 75).map (fun i => (i.zero, i.size, i.bytes)) = some (some (.agg #[.int .i64 0, .int .i64 0]), 2, 16) := by kernel_rfl
theorem wpList_append_sp {w : World} {ops : Array Oper} {rest : List Oper} {o : Oper} {a : Act} {Q : Exit → Act → World → Prop} (hgd : o.guard = none) (s x : Operand)
    (ho : o.op = .call { callee := .builtin .append, args := #[s, x], argTypes := #[72, 72] }) (B : Nat) (v : Value) (l : List Sp) (hs : a.eval s = v) (hown : OwnSp w B v l)
    (g : Nat) (c : Sp) (hx : a.eval x = .slice (some ⟨g, 0, none⟩) 1 1) (hg : w.heap[g]? = some (.cells #[.int .i64 (c.1 : Nat), .int .i64 (c.2 : Nat)] 75)) (hfit : l.length < 6000000000000) (hB : B ≤ w.heap.size)
    (h : ∀ v' w', OwnSp w' B v' (l ++ [c]) → w.grownBy w' v.ownBlock → Lies w v v' → wpList Tryz.prog ops Q rest (a.put o.dst v') w') : wpList Tryz.prog ops Q (o :: rest) a w := by
  obtain ⟨i0, hi, hz0, hz1, hz2⟩ := info_parts Tryz.infoSpan
  refine wpList_append_lies _ hgd s x 72 ho B 75 i0 (.agg #[.int .i64 0, .int .i64 0]) 2 16 Tryz.underlying72 hi hz0 hz1 hz2 rfl (by decide) v l.length (spC l) hs hown ⟨g, 0, none⟩ 1 1 (spC1 c) hx rfl ?_ ?_ (by decide) ?_ ?_ hB w.heap.size rfl ?_
  · exact World.news_of_block (cs := #[.int .i64 (c.1 : Nat), .int .i64 (c.2 : Nat)]) hg
  · have := spC_one [c]
    simpa [spC] using this
  · unfold maxLen; omega
  · omega
  · intro g' cap w' g2 g3 g4 _
    refine h _ w' ?_ g3 ?_
    · show w'.ownsRow _ _ _ _ _ _
      rw [List.length_append, spC_append]
      have e : spC [c] = spC1 c := by simp [spC]
      rw [e]; exact g2
    · intro k hk
      cases hk
      rcases g4 with g4 | g4
      · exact .inl g4
      · exact .inr (Nat.le_of_eq g4.symm)
/-- the last span's end written over -/
theorem own_last {w : World} {B : Nat} {g cap : Nat} {l : List Sp} {q : Sp} {t : Nat} (h : OwnSp w B (.slice (some ⟨g, 0, none⟩) (l.length + 1) cap) (l ++ [q])) : OwnSp (w.setCell ⟨g, l.length * 2 + 1, none⟩ (.int .i64 (t : Nat))) B (.slice (some ⟨g, 0, none⟩) (l.length + 1) cap) (l ++ [(q.1, t)]) := by
  obtain ⟨h1, ⟨hv, _⟩ | ⟨g', cap', cur, hv, hB, hh, hc, hm, hsz, htk⟩⟩ := h
  · cases hv
  · have hv2 : g = g' ∧ cap = cap' := by
      simp only [Value.slice.injEq, Option.some.injEq, Addr.mk.injEq, and_true] at hv
      exact ⟨hv.1, hv.2.2⟩
    obtain ⟨rfl, rfl⟩ := hv2
    refine ⟨by rw [spC_length], .inr ⟨g, cap, cur.setIfInBounds (l.length * 2 + 1) (.int .i64 (t : Nat)), ?_, hB, ?_, ?_, hm, ?_, ?_⟩⟩
    · rw [List.length_append, List.length_singleton]
    · exact set_heap w g (l.length * 2 + 1) _ _ _ hh
    · rw [List.length_append, List.length_singleton] at hc ⊢; exact hc
    · rw [Array.size_setIfInBounds]; exact hsz
    · rw [Array.toList_setIfInBounds]
      rw [List.length_append, List.length_singleton] at htk ⊢
      rw [List.take_set, htk, spC_append, spC_append]
      have e1 : spC [q] = [.int .i64 (q.1 : Nat), .int .i64 (q.2 : Nat)] := by simp [spC, spC1]
      have e2 : spC [(q.1, t)] = [.int .i64 (q.1 : Nat), .int .i64 (t : Nat)] := by simp [spC, spC1]
      rw [e1, e2, List.set_append_right _ _ (by rw [spC_length]; omega), spC_length, show l.length * 2 + 1 - l.length * 2 = 1 by omega]
      rfl
/-- what groups' function does with the spans so far -/
def gstep (ctx : Int) (acc : List Sp) (r : Sp) : List Sp := match acc.getLast? with
  | none => acc ++ [r]
  | some q => if (r.1 : Int) - (q.2 : Int) ≤ 2 * ctx then acc.dropLast ++ [(q.1, r.2)] else acc ++ [r]
def gfold (ctx : Int) (rs : List Sp) : List Sp := rs.foldl (gstep ctx) []
theorem gfold_app (ctx : Int) (d : List Sp) (r : Sp) : gfold ctx (d ++ [r]) = gstep ctx (gfold ctx d) r := by unfold gfold; rw [List.foldl_append]; rfl
theorem gstep_len (ctx : Int) (acc : List Sp) (r : Sp) : (gstep ctx acc r).length ≤ acc.length + 1 := by
  unfold gstep
  split
  · simp
  · split
    · rw [List.length_append, List.length_dropLast, List.length_singleton]; omega
    · simp
theorem gfold_len (ctx : Int) (d : List Sp) : (gfold ctx d).length ≤ d.length := by
  have key : ∀ (d acc : List Sp), (d.foldl (gstep ctx) acc).length ≤ acc.length + d.length := by
    intro d
    induction d with
    | nil => intro acc; simp
    | cons r d ih =>
      intro acc
      rw [List.foldl_cons, List.length_cons]
      have := ih (gstep ctx acc r)
      have := gstep_len ctx acc r
      omega
  simpa [gfold] using key d []
theorem gfold_le (ctx : Int) (N : Nat) : ∀ (d acc : List Sp), (∀ r ∈ d, r.2 ≤ N) → (∀ q ∈ acc, q.2 ≤ N) → ∀ q ∈ d.foldl (gstep ctx) acc, q.2 ≤ N := by
  intro d
  induction d with
  | nil => intro acc _ h; exact h
  | cons r d ih =>
    intro acc hd ha
    rw [List.foldl_cons]
    refine ih _ (fun x hx => hd x (by simp [hx])) (fun q hq => ?_)
    unfold gstep at hq
    have hr := hd r (by simp)
    split at hq
    · rcases List.mem_append.1 hq with hq | hq
      · exact ha q hq
      · simp at hq; subst hq; exact hr
    · split at hq
      · rcases List.mem_append.1 hq with hq | hq
        · exact ha q (List.dropLast_subset _ hq)
        · simp at hq; subst hq; exact hr
      · rcases List.mem_append.1 hq with hq | hq
        · exact ha q hq
        · simp at hq; subst hq; exact hr
theorem own_off {w : World} {B n size b o c : Nat} {e : TypeId} {xs : List Value} (h : w.ownsRow B e size (.slice (some ⟨b, o, none⟩) n c) n xs) : o = 0 := by
  rcases h.2 with ⟨hv, _⟩ | ⟨g, cap, cur, hv, _⟩
  · cases hv
  · simp only [Value.slice.injEq, Option.some.injEq, Addr.mk.injEq, and_true] at hv
    exact hv.1.2
theorem own_cur {w : World} {B n m size b c : Nat} {e : TypeId} {xs : List Value} (h : w.ownsRow B e size (.slice (some ⟨b, 0, none⟩) m c) n xs) : ∃ cur, w.heap[b]? = some (.cells cur e) := by
  rcases h.2 with ⟨hv, _⟩ | ⟨g, cap, cur, hv, _, hh, _⟩
  · cases hv
  · simp only [Value.slice.injEq, Option.some.injEq, Addr.mk.injEq, and_true] at hv
    obtain ⟨rfl, _⟩ := hv
    exact ⟨cur, hh⟩
/-- what groups' function keeps -/
structure GpI (ctx : Int) (Bc lb xb : Nat) (d : List Sp) (X : Nat → Prop) (w : World) : Prop where
  ct : w.heap[xb]? = some (.cells #[.int .i64 ctx] 3)
  ls : ∃ v, w.heap[lb]? = some (.cells #[v] 72) ∧ OwnSp w Bc v (gfold ctx d) ∧ ∀ g, X g ↔ g = lb ∨ v.ownBlock = some g
set_option maxHeartbeats 1000000 in
set_option maxRecDepth 100000 in
theorem groupsF_any {w : World} {ctx : Int} {Bc lb xb f t : Nat} {d : List Sp} {X : Nat → Prop} (hI : GpI ctx Bc lb xb d X w) (hc0 : 0 ≤ ctx) (hc1 : ctx ≤ 2147483647) (hBc : Bc ≤ w.heap.size) (hft : f ≤ 6000000000000) (hd : d.length < 5900000000000) (hle : ∀ r ∈ d, r.2 ≤ 6000000000000) :
    Calls Tryz.prog 81 #[spV (f, t), .pointer (some ⟨lb, 0, none⟩), .pointer (some ⟨xb, 0, none⟩)] w fun e w' => e = .returned (.tuple #[]) ∧ Kept X w w' ∧ ∃ X', (∀ g, X' g → X g ∨ w.heap.size ≤ g) ∧ GpI ctx Bc lb xb (d ++ [(f, t)]) X' w' := by
  obtain ⟨i1, vl, i2, i3, i4⟩ := hI
  have hgl := gfold_len ctx d
  have hle2 := gfold_le ctx 6000000000000 d [] hle (by simp)
  have HGF := hid (gfold_app ctx d (f, t))
  have hle3 : ∀ q ∈ gfold ctx d, q.2 ≤ 6000000000000 := hle2
  obtain ⟨L, hL⟩ : ∃ L, L = gfold ctx d := ⟨_, rfl⟩
  rw [← hL] at i3 hgl hle3 HGF
  have nlx : lb ≠ xb := blk_ne i2 i1 (by decide)
  have hbn := (Below.refl w.heap.size w).alloc (Nat.le_refl _) (.cells #[.int .i64 f, .int .i64 t] 75)
  have hkn := heap_alloc_new w (.cells #[.int .i64 f, .int .i64 t] 75)
  have HI3 := hid i3
  have HX := hid i4
  obtain ⟨al, cl, e9⟩ := own_shape i3
  subst e9
  have hfl : (L.length : Int) ≤ 5900000000000 := by omega
  obtain ⟨G, hG⟩ : ∃ G, G = w.heap.size := ⟨_, rfl⟩
  have HG := hid hG
  have HW1 := hid (own_stays i3 hbn)
  have j1 := (hbn.block xb (lt_of_heap i1)).trans i1
  have j2 := (hbn.block lb (lt_of_heap i2)).trans i2
  have HN3 : Hid ((Value.slice al L.length cl).ownBlock ≠ some lb ∧ (Value.slice al L.length cl).ownBlock ≠ some xb) := hid ⟨own_ne i3 i2 (by decide), own_ne i3 i1 (by decide)⟩
  have HXL : Hid (X lb) := hid ((i4 lb).2 (.inl rfl))
  have HXO : Hid (∀ g, (Value.slice al L.length cl).ownBlock = some g → X g) := hid (fun g hg => (i4 g).2 (.inr hg))
  unfold spV
  dsimp only
  clear hL hle hle2 i1 i2 i3 i4 HI3
  rw [← hG] at hkn
  clear hG
  have hBc1 : Bc ≤ (w.alloc (.cells #[.int .i64 f, .int .i64 t] 75)).heap.size := Nat.le_trans hBc hbn.size
  have HB1 := hid hbn
  have HX1 : Hid (Kept X w (w.alloc (.cells #[.int .i64 f, .int .i64 t] 75))) := hid (Kept.of_below hbn)
  have x0 : (w.alloc (.cells #[.int .i64 f, .int .i64 t] 75)).cell? ⟨xb, 0, none⟩ = some (.int .i64 ctx) := cell_of_blk j1 0
  have l0 : (w.alloc (.cells #[.int .i64 f, .int .i64 t] 75)).cell? ⟨lb, 0, none⟩ = some (.slice al L.length cl) := cell_of_blk j2 0
  have g0 : (w.alloc (.cells #[.int .i64 f, .int .i64 t] 75)).cell? ⟨w.heap.size, 0, none⟩ = some (.int .i64 f) := by have h := cell_of_blk hkn 0; rw [HG.out] at h; exact h
  have g1 : (w.alloc (.cells #[.int .i64 f, .int .i64 t] 75)).cell? ⟨w.heap.size, 1, none⟩ = some (.int .i64 t) := by have h := cell_of_blk hkn 1; rw [HG.out] at h; exact h
  have i9 : IntKind.i64.wrap (2 * ctx) = 2 * ctx := wrapOk (by omega) (by omega)
  have J1 := hid j1
  have J2 := hid j2
  clear j1 j2 hbn hkn
  have hkw : (w.alloc (.cells #[.int .i64 f, .int .i64 t] 75)).heap[w.heap.size]? = some (.cells #[.int .i64 f, .int .i64 t] 75) := heap_alloc_new w _
  have hLl : L.length < 6000000000000 := by omega
  cases hq : L.getLast? with
  | none =>
    have e : L = [] := List.getLast?_eq_none_iff.1 hq
    have HST : Hid (gstep ctx L (f, t) = L ++ [(f, t)]) := hid (by unfold gstep; rw [hq])
    subst e
    clear hq
    change Hid (OwnSp _ Bc (.slice al 0 cl) []) at HW1
    rw [List.length_nil] at l0 HN3 HXO J2 hLl
    go_enter Tryz.func81, Tryz.ntmps81
    go_wp2_with fail
    go_quiet (fail)
    have HNx := hid (below_drewN (Below.refl (w.alloc (.cells #[.int .i64 f, .int .i64 t] 75)).heap.size (w.alloc (.cells #[.int .i64 f, .int .i64 t] 75))) nq)
    have HW2 := hid (own_stays HW1.out HNx.out)
    have HX2 := hid (HX1.out.on HNx.out)
    have j1 := (HNx.out.block xb (lt_of_heap J1.out)).trans J1.out
    have j2 := (HNx.out.block lb (lt_of_heap J2.out)).trans J2.out
    have jg := (HNx.out.block w.heap.size (lt_of_heap hkw)).trans hkw
    have hs2 : w.heap.size ≤ ((w.alloc (.cells #[.int .i64 f, .int .i64 t] 75)).drewN nq).heap.size := Nat.le_trans HB1.out.size HNx.out.size
    have hBc2 : Bc ≤ ((w.alloc (.cells #[.int .i64 f, .int .i64 t] 75)).drewN nq).heap.size := Nat.le_trans hBc1 HNx.out.size
    clear x0 l0 g0 g1
    generalize (w.alloc (.cells #[.int .i64 f, .int .i64 t] 75)).drewN nq = w2 at HW2 HX2 j1 j2 jg hs2 hBc2 ⊢
    clear HNx HW1 HX1
    have l0 : w2.cell? ⟨lb, 0, none⟩ = some (.slice al 0 cl) := cell_of_blk j2 0
    have g0 : w2.cell? ⟨w.heap.size, 0, none⟩ = some (.int .i64 f) := cell_of_blk jg 0
    have g1 : w2.cell? ⟨w.heap.size, 1, none⟩ = some (.int .i64 t) := cell_of_blk jg 1
    have hb3 := (Below.refl w2.heap.size w2).alloc (Nat.le_refl _) (.cells #[.int .i64 f, .int .i64 t] 75)
    have HB3 := hid hb3
    have HW3 := hid (own_stays HW2.out hb3)
    have K1 := hid j1
    have K2 := hid j2
    clear j1 j2 jg hb3 J1 J2
    go_wp2_with (at_builtin; refine wpList_append_sp rfl _ _ rfl Bc _ [] rfl HW3.out w2.heap.size (f, t) rfl (heap_alloc_new w2 _) (by decide) (Nat.le_trans hBc2 HB3.out.size) ?_; intro v7 w7 hO7 hg7 hl7; rw [← HST.out, ← HGF.out] at hO7; obtain ⟨a7, k7, e7⟩ := own_shape hO7; subst e7; have HO7 := hid hO7; have HG7 := hid hg7; have HL7 := hid hl7; have P2 : w7.heap[lb]? = _ := (hg7.block lb (Nat.lt_of_lt_of_le (lt_of_heap K2.out) HB3.out.size) (fun e => HN3.out.1 e.symm)).trans ((HB3.out.block lb (lt_of_heap K2.out)).trans K2.out); have c7 : w7.cell? ⟨lb, 0, none⟩ = some (.slice al 0 cl) := cell_of_blk P2 0; have z7 : ∀ j, w7.frozen? ⟨lb, j, none⟩ = false := fun j => frozen_of_blk P2 j; clear hO7 hg7 hl7)
    have HE7 : Hid (∀ g, (Value.slice a7 (gfold ctx (d ++ [(f, t)])).length k7).ownBlock = some g → X g ∨ w.heap.size ≤ g) := hid (fun g hg => by
      rcases HL7.out g hg with h | h
      · exact .inl (HXO.out g h)
      · exact .inr (Nat.le_trans (Nat.le_trans hs2 HB3.out.size) h))
    have HN7 : Hid ((Value.slice a7 (gfold ctx (d ++ [(f, t)])).length k7).ownBlock ≠ some lb) := hid (own_ne HO7.out P2 (by decide))
    have P1 : w7.heap[xb]? = _ := (HG7.out.block xb (Nat.lt_of_lt_of_le (lt_of_heap K1.out) HB3.out.size) (fun e => HN3.out.2 e.symm)).trans ((HB3.out.block xb (lt_of_heap K1.out)).trans K1.out)
    refine bodyPost_end (v := .tuple #[]) (by simp [results, Tryz.results81]) rfl ⟨rfl, ((HX2.out.on HB3.out).grown HG7.out (fun g hg => .inl (HXO.out g hg))).set (.inl HXL.out), fun g => g = lb ∨ (Value.slice a7 (gfold ctx (d ++ [(f, t)])).length k7).ownBlock = some g, ?_, (set_other _ (Ne.symm nlx)).trans P1, _, set_heap _ lb 0 _ _ _ P2, own_far HO7.out (fun g hg => set_other _ (fun e => HN7.out (by rw [← e]; exact hg))), fun g => Iff.rfl⟩
    rintro g (rfl | hg)
    · exact .inl HXL.out
    · exact HE7.out g hg
  | some q =>
    obtain ⟨M, hM⟩ : ∃ M, L = M ++ [q] := by
      have hne : L ≠ [] := by intro e; rw [e] at hq; cases hq
      refine ⟨L.dropLast, ?_⟩
      have h2 := List.dropLast_concat_getLast hne
      rw [List.getLast?_eq_some_getLast hne] at hq
      rw [Option.some.inj hq] at h2
      exact h2.symm
    have HST0 : Hid (gstep ctx L (f, t) = if (f : Int) - (q.2 : Int) ≤ 2 * ctx then L.dropLast ++ [(q.1, t)] else L ++ [(f, t)]) := hid (by unfold gstep; rw [hq])
    have hq2 := hle3 q (by rw [hM]; simp)
    obtain ⟨LN, hLN⟩ : ∃ LN, LN = L.length := ⟨_, rfl⟩
    obtain ⟨K, hK⟩ : ∃ K, LN = K + 1 := ⟨M.length, by rw [hLN, hM]; simp⟩
    have hLK : L[K]? = some q := by
      rw [hM]
      have : K = M.length := by rw [hM] at hLN; simp at hLN; omega
      rw [this]
      simp
    have HWL : Hid (OwnSp (w.alloc (.cells #[.int .i64 f, .int .i64 t] 75)) Bc (.slice al LN cl) L) := hid (by rw [hLN]; exact HW1.out)
    rw [← hLN] at l0 HN3 HXO J2 hLl
    obtain ⟨bl, ol, e5, hb5, _, s1⟩ := rdSp_at (own_rd HWL.out) hLK
    subst e5
    have HW1 := HWL
    have HMN : Hid (M.length = K) := hid (by rw [hM] at hLN; simp at hLN; omega)
    have HM := hid hM
    have r1 : IntKind.i64.wrap ((LN : Int) - 1) = (K : Int) := (wrapOk (by omega) (by omega)).trans (by omega)
    have r2 : (0 : Int) ≤ (K : Int) := by omega
    have r3 : (K : Int) < (LN : Int) := by omega
    obtain ⟨GA, hGA⟩ : ∃ GA : Int, GA = (f : Int) - (q.2 : Int) := ⟨_, rfl⟩
    have r4 : IntKind.i64.wrap ((f : Int) - ((q.2 : Nat) : Int)) = GA := (wrapOk (by omega) (by omega)).trans hGA.symm
    have hlL : L.length < 6000000000000 := by omega
    by_cases hg : GA ≤ 2 * ctx
    · have HST : Hid (gstep ctx L (f, t) = M ++ [(q.1, t)]) := hid (by rw [HST0.out, if_pos (by omega), hM, List.dropLast_concat])
      have hol : ol = 0 := own_off (by have h := HWL.out; have h2 : World.ownsRow (w.alloc (.cells #[.int .i64 f, .int .i64 t] 75)) Bc 75 2 (.slice (some ⟨bl, ol, none⟩) LN cl) L.length (spC L) := h; rw [← hLN] at h2; exact h2)
      subst hol
      have HWM : Hid (OwnSp (w.alloc (.cells #[.int .i64 f, .int .i64 t] 75)) Bc (.slice (some ⟨bl, 0, none⟩) (M.length + 1) cl) (M ++ [q])) := hid (by have h := HWL.out; rw [hM] at h; rw [HMN.out, ← hK]; exact h)
      rw [Nat.zero_add] at s1
      have HKL := hid hK
      clear hq hM hLK hLN hGA HST0 hLl HWL HW1 hK
      go_enter Tryz.func81, Tryz.ntmps81
      go_wp2_with fail
      go_quiet (fail)
      have HNx := hid (below_drewN (Below.refl (w.alloc (.cells #[.int .i64 f, .int .i64 t] 75)).heap.size (w.alloc (.cells #[.int .i64 f, .int .i64 t] 75))) nq)
      have HW2 := hid (own_stays HWM.out HNx.out)
      have HX2 := hid (HX1.out.on HNx.out)
      have j1 := (HNx.out.block xb (lt_of_heap J1.out)).trans J1.out
      have j2 := (HNx.out.block lb (lt_of_heap J2.out)).trans J2.out
      have jg := (HNx.out.block w.heap.size (lt_of_heap hkw)).trans hkw
      have js := (HNx.out.cell (lt_of_cell s1)).trans s1
      clear x0 l0 g0 g1 s1
      generalize (w.alloc (.cells #[.int .i64 f, .int .i64 t] 75)).drewN nq = w2 at HW2 HX2 j1 j2 jg js ⊢
      clear HNx HX1 HWM
      have l0 : w2.cell? ⟨lb, 0, none⟩ = some (.slice (some ⟨bl, 0, none⟩) LN cl) := cell_of_blk j2 0
      have g1 : w2.cell? ⟨w.heap.size, 1, none⟩ = some (.int .i64 t) := cell_of_blk jg 1
      have K1 := hid j1
      have K2 := hid j2
      obtain ⟨cur, hcur⟩ := own_cur HW2.out
      have zf : ∀ j, w2.frozen? ⟨bl, j, none⟩ = false := fun j => frozen_of_blk hcur j
      have HXB : Hid (X bl) := hid (HXO.out bl rfl)
      have nbl : lb ≠ bl := fun e => HN3.out.1 (by rw [e]; rfl)
      have nbx : xb ≠ bl := fun e => HN3.out.2 (by rw [e]; rfl)
      have HOL : Hid (OwnSp (w2.setCell ⟨bl, K * 2 + 1, none⟩ (.int .i64 (t : Nat))) Bc (.slice (some ⟨bl, 0, none⟩) LN cl) (M ++ [(q.1, t)])) := hid (by
        have h := own_last (t := t) HW2.out
        rw [HMN.out, ← HKL.out] at h
        exact h)
      clear j1 j2 J1 J2 jg hcur
      go_wp2_with fail
      refine bodyPost_end (v := .tuple #[]) (by simp [results, Tryz.results81]) rfl ⟨rfl, HX2.out.set (.inl HXB.out), X, fun g hg => .inl hg, (set_other _ nbx).trans K1.out, _, (set_other _ nbl).trans K2.out, ?_, fun g => HX.out g⟩
      rw [HGF.out, HST.out]
      exact HOL.out
    · have HST : Hid (gstep ctx L (f, t) = L ++ [(f, t)]) := hid (by rw [HST0.out, if_neg (by omega)])
      have hg' : ¬ GA ≤ 2 * ctx := hg
      clear hq hM hLK hK hLN hGA HST0 hg hLl HWL
      go_enter Tryz.func81, Tryz.ntmps81
      go_wp2_with fail
      go_quiet (fail)
      have HNx := hid (below_drewN (Below.refl (w.alloc (.cells #[.int .i64 f, .int .i64 t] 75)).heap.size (w.alloc (.cells #[.int .i64 f, .int .i64 t] 75))) nq)
      have HW2 := hid (own_stays HW1.out HNx.out)
      have HX2 := hid (HX1.out.on HNx.out)
      have j1 := (HNx.out.block xb (lt_of_heap J1.out)).trans J1.out
      have j2 := (HNx.out.block lb (lt_of_heap J2.out)).trans J2.out
      have jg := (HNx.out.block w.heap.size (lt_of_heap hkw)).trans hkw
      have hs2 : w.heap.size ≤ ((w.alloc (.cells #[.int .i64 f, .int .i64 t] 75)).drewN nq).heap.size := Nat.le_trans HB1.out.size HNx.out.size
      have hBc2 : Bc ≤ ((w.alloc (.cells #[.int .i64 f, .int .i64 t] 75)).drewN nq).heap.size := Nat.le_trans hBc1 HNx.out.size
      clear x0 l0 g0 g1
      generalize (w.alloc (.cells #[.int .i64 f, .int .i64 t] 75)).drewN nq = w2 at HW2 HX2 j1 j2 jg hs2 hBc2 ⊢
      clear HNx HW1 HX1
      have l0 : w2.cell? ⟨lb, 0, none⟩ = some (.slice (some ⟨bl, ol, none⟩) LN cl) := cell_of_blk j2 0
      have g0 : w2.cell? ⟨w.heap.size, 0, none⟩ = some (.int .i64 f) := cell_of_blk jg 0
      have g1 : w2.cell? ⟨w.heap.size, 1, none⟩ = some (.int .i64 t) := cell_of_blk jg 1
      have hb3 := (Below.refl w2.heap.size w2).alloc (Nat.le_refl _) (.cells #[.int .i64 f, .int .i64 t] 75)
      have HB3 := hid hb3
      have HW3 := hid (own_stays HW2.out hb3)
      have K1 := hid j1
      have K2 := hid j2
      clear j1 j2 jg hb3 J1 J2
      go_wp2_with (at_builtin; refine wpList_append_sp rfl _ _ rfl Bc _ L rfl HW3.out w2.heap.size (f, t) rfl (heap_alloc_new w2 _) hlL (Nat.le_trans hBc2 HB3.out.size) ?_; intro v7 w7 hO7 hg7 hl7; rw [← HST.out, ← HGF.out] at hO7; obtain ⟨a7, k7, e7⟩ := own_shape hO7; subst e7; have HO7 := hid hO7; have HG7 := hid hg7; have HL7 := hid hl7; have P2 : w7.heap[lb]? = _ := (hg7.block lb (Nat.lt_of_lt_of_le (lt_of_heap K2.out) HB3.out.size) (fun e => HN3.out.1 e.symm)).trans ((HB3.out.block lb (lt_of_heap K2.out)).trans K2.out); have c7 : w7.cell? ⟨lb, 0, none⟩ = some (.slice (some ⟨bl, ol, none⟩) LN cl) := cell_of_blk P2 0; have z7 : ∀ j, w7.frozen? ⟨lb, j, none⟩ = false := fun j => frozen_of_blk P2 j; clear hO7 hg7 hl7)
      have HE7 : Hid (∀ g, (Value.slice a7 (gfold ctx (d ++ [(f, t)])).length k7).ownBlock = some g → X g ∨ w.heap.size ≤ g) := hid (fun g hg => by
        rcases HL7.out g hg with h | h
        · exact .inl (HXO.out g h)
        · exact .inr (Nat.le_trans (Nat.le_trans hs2 HB3.out.size) h))
      have HN7 : Hid ((Value.slice a7 (gfold ctx (d ++ [(f, t)])).length k7).ownBlock ≠ some lb) := hid (own_ne HO7.out P2 (by decide))
      have P1 : w7.heap[xb]? = _ := (HG7.out.block xb (Nat.lt_of_lt_of_le (lt_of_heap K1.out) HB3.out.size) (fun e => HN3.out.2 e.symm)).trans ((HB3.out.block xb (lt_of_heap K1.out)).trans K1.out)
      refine bodyPost_end (v := .tuple #[]) (by simp [results, Tryz.results81]) rfl ⟨rfl, ((HX2.out.on HB3.out).grown HG7.out (fun g hg => .inl (HXO.out g hg))).set (.inl HXL.out), fun g => g = lb ∨ (Value.slice a7 (gfold ctx (d ++ [(f, t)])).length k7).ownBlock = some g, ?_, (set_other _ (Ne.symm nlx)).trans P1, _, set_heap _ lb 0 _ _ _ P2, own_far HO7.out (fun g hg => set_other _ (fun e => HN7.out (by rw [← e]; exact hg))), fun g => Iff.rfl⟩
      rintro g (rfl | hg)
      · exact .inl HXL.out
      · exact HE7.out g hg
end Go.Proofs.YtddmfdjkkikapaaGreatDoor
/-
  The walk of groups.
-/
namespace Go.Proofs.YtddmfdjkkikapaaGreatDoor
open Go.RowKit
open Hu (Rw Hk)
open Ed (Ch)

theorem GpI.far {ctx : Int} {Bc lb xb E : Nat} {d : List Sp} {X : Nat → Prop} {w w2 : World} (hI : GpI ctx Bc lb xb d X w) (h1 : lb < E) (h2 : xb < E) (hf : Far E X w w2) : GpI ctx Bc lb xb d X w2 := by
  obtain ⟨i1, v, i2, i3, i4⟩ := hI
  exact ⟨(hf.block xb (lt_of_heap i1) (.inl h2)).trans i1, v, (hf.block lb (lt_of_heap i2) (.inl h1)).trans i2, own_far i3 (fun g hg => hf.block g (own_lt i3 g hg) (.inr ((i4 g).2 (.inr hg)))), i4⟩
theorem runs_le {l : List Rw} : ∀ r ∈ Hu.runsR l 0 0, r.2 ≤ l.length := by
  intro r hr
  obtain ⟨d, rest, e⟩ := List.append_of_mem hr
  exact (Hu.runs_in e).2.2
theorem runsR_len : ∀ (l : List Rw) (i f : Nat), (Hu.runsR l i f).length ≤ l.length + 1
  | [], i, f => by rw [Hu.runsR, Hu.run1]; split <;> simp
  | r :: l, i, f => by
    rw [Hu.runsR]
    split
    · have := runsR_len l (i + 1) f; rw [List.length_cons]; omega
    · have := runsR_len l (i + 1) (i + 1)
      rw [List.length_append, List.length_cons, Hu.run1]
      split <;> simp <;> omega
theorem gp_takes {w6 : World} {l : List Rw} {ctx : Int} {Bc lb xb B : Nat} (hl : l.length < 5864062014800) (hc0 : 0 ≤ ctx) (hc1 : ctx ≤ 2147483647) (hB : B ≤ lb ∧ B ≤ Bc) (hBc : Bc ≤ w6.heap.size) (h1 : lb < w6.heap.size) (h2 : xb < w6.heap.size) :
    Takes 81 #[.pointer (some ⟨lb, 0, none⟩), .pointer (some ⟨xb, 0, none⟩)] B w6.heap.size w6 (Hu.runsR l 0 0) (GpI ctx Bc lb xb) where
  ent := fun _ _ => by kernel_rfl
  far := fun d X w1 w2 hI hf => hI.far h1 h2 hf
  ge := fun d X w1 hI g hg => by
    obtain ⟨_, v, _, i3, i4⟩ := hI
    rcases (i4 g).1 hg with rfl | hg
    · exact hB.1
    · exact Nat.le_trans hB.2 (own_ge i3 g hg)
  step := fun d X r w1 hI hb hrest => by
    obtain ⟨rest, hrs⟩ := hrest
    obtain ⟨f, t⟩ := r
    have hin := Hu.runs_in hrs
    have hlen := congrArg List.length hrs
    rw [List.length_append, List.length_cons] at hlen
    have := runsR_len l 0 0
    exact groupsF_any hI hc0 hc1 (Nat.le_trans hBc hb.size) (by simp only at hin; omega) (by omega) (fun r hr => by
      have := runs_le r (by rw [hrs]; exact List.mem_append_left _ hr)
      omega)
set_option maxHeartbeats 1000000 in
set_option maxRecDepth 100000 in
theorem groups_any {w : World} {v : Value} {l : List Rw} {ctx : Int} (hv : RdW w v l) (hl : l.length < 5864062014800) (hc0 : 0 ≤ ctx) (hc1 : ctx ≤ 2147483647) :
    Calls Tryz.prog 34 #[v, .int .i64 ctx] w fun e w' => ∃ v', e = .returned v' ∧ OwnSp w' w.heap.size v' (gfold ctx (Hu.runsR l 0 0)) ∧ Below w.heap.size w w' := by
  obtain ⟨av, cv, rfl⟩ := hv.shape
  have HV := hid hv
  obtain ⟨t1, t2, t3, t4⟩ := two' w (.cells #[.int .i64 ctx] 3) (.cells #[.slice none 0 0] 72)
  obtain ⟨n, hn⟩ : ∃ n, n = l.length := ⟨_, rfl⟩
  have HN := hid hn
  rw [← hn] at hl ⊢
  clear hv hn
  go_enter Tryz.func34, Tryz.ntmps34
  go_wp2_with fail
  generalize (w.alloc (.cells #[.int .i64 ctx] 3)).alloc (.cells #[.slice none 0 0] 72) = w1 at t1 t2 t3 t4 ⊢
  have HB1 := hid t1
  have hT := gp_takes (w6 := w1) (l := l) (ctx := ctx) (Bc := w.heap.size) (lb := w.heap.size + 1) (xb := w.heap.size) (B := w.heap.size) (by have := HN.out; omega) hc0 hc1 ⟨by omega, Nat.le_refl _⟩ t1.size (by omega) (by omega)
  have h0 : GpI ctx w.heap.size (w.heap.size + 1) w.heap.size [] (fun g => g = w.heap.size + 1 ∨ (Value.slice none 0 0).ownBlock = some g) w1 := ⟨t2, _, t3, World.ownsRow_nil _ _ _ _, fun g => Iff.rfl⟩
  have HER := hid (hEachRun_any (HV.out.below t1) (B := w.heap.size) HV.out.under t1.size (by have := HN.out; omega) hT h0 (fun g hg => by
    rcases hg with rfl | hg
    · omega
    · cases hg))
  rw [← HN.out] at HER
  clear t1 t2 t3 t4 hT h0
  refine HER.out.mono ?_
  rintro e w7 ⟨rfl, hb7, X7, hI7⟩
  obtain ⟨_, v7, r4, r5, _⟩ := hI7
  obtain ⟨a7, k7, e7⟩ := own_shape r5
  subst e7
  have c0 := cell_of_blk r4 0
  have HB7 := hid (HB1.out.trans hb7)
  have HO7 := hid r5
  obtain ⟨GL, hGL⟩ : ∃ GL, GL = (gfold ctx (Hu.runsR l 0 0)).length := ⟨_, rfl⟩
  have c1 : w7.cell? ⟨w.heap.size + 1, 0, none⟩ = some (.slice a7 GL k7) := by rw [hGL]; exact c0
  rw [← hGL] at HO7
  clear r4 r5 hb7 c0 hGL
  go_wp2_with fail
  go_ret
  exact ⟨_, rfl, HO7.out, HB7.out⟩
end Go.Proofs.YtddmfdjkkikapaaGreatDoor
