/-
  The walks of isEmpty and script.
-/
import Derived.Test.YtdilmgcdebobaaaY0
import Derived.Test.YtdilmgcdebobaaaGrXC4
import Derived.Test.YtdilmgcdebobaaaW0
namespace Go.Proofs.Ytdilmgcdebobaaa
open Go.RowKit
open Ed (Ch Run Pr)

set_option maxHeartbeats 1000000 in
theorem isEmpty_any {w : World} (x y X Y : Nat) :
    Calls Try.prog 42 #[.agg #[.int .i64 x, .int .i64 y, .int .i64 X, .int .i64 Y]] w fun e w' => e = .returned (.bool (decide (x = X ∨ y = Y))) ∧ Below w.heap.size w w' := by
  have e1 : ((x : Int) == (X : Int)) = decide (x = X) := by rw [Bool.eq_iff_iff, beq_iff_eq, decide_eq_true_eq]; omega
  have e2 : ((y : Int) == (Y : Int)) = decide (y = Y) := by rw [Bool.eq_iff_iff, beq_iff_eq, decide_eq_true_eq]; omega
  have hb : Below w.heap.size w (w.alloc (boxC x y X Y)) := (Below.refl _ _).alloc (Nat.le_refl _) _
  have HB := hid hb
  clear hb
  by_cases h1 : x = X
  · rw [decide_eq_true h1] at e1
    have H1 := hid h1
    clear h1
    go_enter Try.func42, Try.ntmps42
    go_wp2
    go_ret
    exact ⟨by rw [decide_eq_true (.inl H1.out)]; rfl, HB.out⟩
  · rw [decide_eq_false h1] at e1
    by_cases h2 : y = Y
    · rw [decide_eq_true h2] at e2
      have H2 := hid h2
      clear h2
      go_enter Try.func42, Try.ntmps42
      go_wp2
      go_ret
      exact ⟨by rw [decide_eq_true (.inr H2.out)]; rfl, HB.out⟩
    · rw [decide_eq_false h2] at e2
      go_enter Try.func42, Try.ntmps42
      go_wp2
      go_ret
      exact ⟨by rw [decide_eq_false (by rintro (h | h); exact h1 h; exact h2 h)]; rfl, HB.out⟩

theorem Try.infoPairQ : (Try.prog.info? 27).map (fun i => (i.zero, i.size, i.bytes)) = some (some (.agg #[.int .i64 0, .int .i64 0]), 2, 16) := by kernel_rfl
abbrev OwnPq (w : World) (B : Nat) (v : Value) (P : List Pr) : Prop := w.ownsRow B 27 2 v P.length (psC P)
theorem OwnPq.rdq {w : World} {B : Nat} {v : Value} {P : List Pr} (h : OwnPq w B v P) : RdP w v P := own_rd h
theorem wpList_append_pq {w : World} {ops : Array Oper} {rest : List Oper} {o : Oper} {a : Act} {Q : Exit → Act → World → Prop} (hgd : o.guard = none) (s x : Operand)
    (ho : o.op = .call { callee := .builtin .append, args := #[s, x], argTypes := #[24, 24] }) (B : Nat) (v : Value) (P : List Pr) (hs : a.eval s = v) (hown : OwnPq w B v P)
    (g : Nat) (p q : Int) (hx : a.eval x = .slice (some ⟨g, 0, none⟩) 1 1) (hg : w.heap[g]? = some (.cells #[.int .i64 p, .int .i64 q] 27)) (hfit : P.length ≤ 1000000000) (hB : B ≤ w.heap.size)
    (h : ∀ v' w', OwnPq w' B v' (P ++ [(p, q)]) → w.grownBy w' v.ownBlock → wpList Try.prog ops Q rest (a.put o.dst v') w') : wpList Try.prog ops Q (o :: rest) a w := by
  obtain ⟨i0, hi, hz0, hz1, hz2⟩ := info_parts Try.infoPairQ
  refine wpList_append_lies _ hgd s x 24 ho B 27 i0 (.agg #[.int .i64 0, .int .i64 0]) 2 16 Try.underlying24 hi hz0 hz1 hz2 rfl (by decide) v P.length (psC P) hs hown ⟨g, 0, none⟩ 1 1 (pC (p, q)) hx rfl ?_ ?_ (by decide) ?_ ?_ hB w.heap.size rfl ?_
  · exact World.news_of_block (cs := #[.int .i64 p, .int .i64 q]) hg
  · have := psC_one [(p, q)]
    simpa [psC] using this
  · unfold maxLen; omega
  · omega
  · intro g' cap w' g2 g3 _ _
    refine h _ w' ?_ g3
    show w'.ownsRow _ _ _ _ _ _
    rw [List.length_append, psC_append]
    have e : psC [(p, q)] = pC (p, q) := by simp [psC]
    rw [e]; exact g2
theorem mkPq (n : Nat) (hn : n ≤ 100000000) (w : World) : (Instr.makeSlice 24 (.int .i64 0) (.int .i64 (n : Int))).run Try.prog w = .ok (.slice (some ⟨w.heap.size, 0, none⟩) 0 n) (w.alloc (.cells (madeCells (Value.agg #[.int .i64 0, .int .i64 0]).cells (n * 2)) 27)) := by
  cases hi : Try.prog.info? 27 with
  | none => have h := Try.infoPairQ; rw [hi] at h; cases h
  | some i =>
    have h := Try.infoPairQ
    rw [hi] at h
    simp at h
    obtain ⟨h1, h2, h3⟩ := h
    have := run_make (P := Try.prog) w 24 27 i (.agg #[.int .i64 0, .int .i64 0]) Try.underlying24 hi h1 .i64 .i64 0 n (by omega) (by omega) (by rw [h3]; omega) (by omega)
    rw [h2] at this
    simpa using this
/-- the pairs of the numbers that have mates -/
def prM (m : List Int) (k : Nat) : List Pr := (List.range k).filterMap (fun i => if fn m i = -1 then none else some ((i : Int), fn m i))
theorem prM_yes {m : List Int} {k : Nat} {y : Int} (h : fn m k = y) (hy : y ≠ -1) : prM m (k + 1) = prM m k ++ [((k : Int), y)] := by
  unfold prM
  rw [List.range_succ, List.filterMap_append, List.filterMap_cons, h, if_neg hy, List.filterMap_nil]
theorem prM_no {m : List Int} {k : Nat} (h : fn m k = -1) : prM m (k + 1) = prM m k := by
  unfold prM
  rw [List.range_succ, List.filterMap_append, List.filterMap_cons, h, if_pos rfl, List.filterMap_nil, List.append_nil]
theorem prM_len (m : List Int) (k : Nat) : (prM m k).length ≤ k := by
  have := List.length_filterMap_le (fun i => if fn m i = -1 then none else some ((i : Int), fn m i)) (List.range k)
  rw [List.length_range] at this
  exact this
theorem prM_wf {m : List Int} {k : Nat} (hm : ∀ x ∈ m, I64 x) (hk : k ≤ m.length) (hl : m.length ≤ 4194304) : ∀ p ∈ prM m k, Cx.WfP p := by
  intro p hp
  unfold prM at hp
  obtain ⟨i, hi, h⟩ := List.mem_filterMap.1 hp
  have hi := List.mem_range.1 hi
  split at h
  · cases h
  · cases h
    refine ⟨?_, hm _ ?_⟩
    · show I64 _
      unfold I64
      omega
    · have := List.getElem?_eq_getElem (show i < m.length by omega)
      rw [fn_at this]
      exact List.getElem_mem _
set_option maxHeartbeats 4000000 in
set_option maxRecDepth 100000 in
theorem pscript_any {w : World} {g gm : Nat} {va vb pm pp : Value} {a b m : List Int} (hv : RdI w va a) (hu : RdI w vb b) (hla : a.length ≤ 4194304) (hlb : b.length ≤ 4194304)
    (hG : w.heap[g]? = some (pairC va vb (.slice (some ⟨gm, 0, none⟩) a.length a.length) pm pp)) (hm : IlR w gm m) (hml : m.length = a.length) (hmw : ∀ x ∈ m, I64 x) (hrise : Ed.rise (prM m a.length) 0 0 a.length b.length = true) :
    Calls Try.prog 28 #[.pointer (some ⟨g, 0, none⟩)] w fun e w' => ∃ v', e = .returned v' ∧ OwnC w' w.heap.size v' (Ed.ofL (prM m a.length) 0 0 a.length b.length) ∧ Below w.heap.size w w' := by
  obtain ⟨av, cv, rfl⟩ := hv.shape
  obtain ⟨au, cu, rfl⟩ := hu.shape
  have HWP := hid (prM_wf (k := a.length) hmw (by omega) (by omega))
  have HRI := hid hrise
  obtain ⟨NA, hNA⟩ : ∃ NA, NA = a.length := ⟨_, rfl⟩
  obtain ⟨NB, hNB⟩ : ∃ NB, NB = b.length := ⟨_, rfl⟩
  rw [← hNA] at hG hla hml HWP HRI ⊢
  rw [← hNB] at hG hlb HRI ⊢
  have HM := hid hm
  have HML := hid hml
  have HG := hid hG
  have hgl := lt_of_heap hG
  have p0 := cell_of_blk hG 0
  have p1 := cell_of_blk hG 1
  have p2 := cell_of_blk hG 2
  simp only [List.getElem?_toArray, List.getElem?_cons_zero, List.getElem?_cons_succ] at p0 p1 p2
  have hmk := mkPq NA (by omega)
  obtain ⟨Z, hZ⟩ : ∃ Z, Z = madeCells (Value.agg #[.int .i64 0, .int .i64 0]).cells (NA * 2) := ⟨_, rfl⟩
  have hZs : Z.size = NA * 2 := by rw [hZ]; exact size_madeCells _ _
  rw [← hZ] at hmk
  have HB1 : Hid (Below w.heap.size w (w.alloc (.cells Z 27))) := hid ((Below.refl _ _).alloc (Nat.le_refl _) _)
  have HO1 : Hid (OwnPq (w.alloc (.cells Z 27)) w.heap.size (.slice (some ⟨w.heap.size, 0, none⟩) 0 NA) []) := hid ⟨rfl, .inr ⟨_, NA, Z, rfl, Nat.le_refl _, heap_alloc_new w _, Nat.zero_le _, by unfold maxLen; omega, by omega, rfl⟩⟩
  have q0 : (w.alloc (.cells Z 27)).cell? ⟨g, 2, none⟩ = _ := (HB1.out.cell (p := ⟨g, 2, none⟩) hgl).trans p2
  clear hv hu hG hm hml hNA hNB hZ hZs hmw hrise
  go_enter Try.func28, Try.ntmps28
  go_wp2
  generalize w.alloc (.cells Z 27) = w1 at HB1 HO1 q0 ⊢
  clear hmk q0
  go_loopw [3, 4, 5, 19] (fun v3 _ _ ii wr => ∃ k : Nat, k ≤ NA ∧ ii = .int .i64 k ∧ Hid (OwnPq wr w.heap.size v3 (prM m k)) ∧ Hid (Below w.heap.size w wr)) (fun _ _ _ ii _ => NA - (intOf ii).toNat)
  case atStart => exact ⟨0, Nat.zero_le _, rfl, HO1, HB1⟩
  case round =>
    clear HO1 HB1 w1
    obtain ⟨k, hk, rfl, HO, HB⟩ := hrel
    by_cases hlt : k < NA
    · obtain ⟨z, hz⟩ : ∃ z, m[k]? = some z := ⟨_, List.getElem?_eq_getElem (by rw [HML.out]; exact hlt)⟩
      have HZ := hid (fn_at hz)
      have c0 := (HB.out.cell (p := ⟨gm, k, none⟩) HM.out.lt).trans (HM.out.cell hz)
      have i1 : (0 : Int) ≤ (k : Int) := by omega
      have i2 : (k : Int) < (NA : Int) := by omega
      have i3 : IntKind.i64.wrap ((k : Int) + 1) = (k : Int) + 1 := by rw [IntKind.wrap_i64]; omega
      have HBS := hid HB.out.size
      have HGE := hid (own_ge2 HO.out)
      have HPL : Hid ((prM m k).length ≤ 1000000000) := hid (by have := prM_len m k; omega)
      clear hz
      by_cases h1 : z = -1
      · subst h1
        have HN : Hid (prM m (k + 1) = prM m k) := hid (prM_no HZ.out)
        go_wp2
        go_roundw
        case rel => exact ⟨k + 1, by omega, by push_cast; rfl, by rw [HN.out]; exact HO, HB⟩
        case measure => simp [intOf]; omega
      · have HN : Hid (prM m (k + 1) = prM m k ++ [((k : Int), z)]) := hid (prM_yes HZ.out h1)
        have HAP : Hid (Below wr.heap.size wr (wr.alloc (Obj.cells #[.int .i64 k, .int .i64 z] 27))) := hid ((Below.refl _ _).alloc (Nat.le_refl _) _)
        have HOW := hid (own_stays HO.out HAP.out)
        have HAB : Hid ((wr.alloc (Obj.cells #[.int .i64 k, .int .i64 z] 27)).heap[wr.heap.size]? = some (Obj.cells #[.int .i64 k, .int .i64 z] 27)) := hid (heap_alloc_new _ _)
        have HBX : Hid (w.heap.size ≤ (wr.alloc (Obj.cells #[.int .i64 k, .int .i64 z] 27)).heap.size) := hid (by simp; have := HBS.out; omega)
        go_wp2_with (at_builtin; refine wpList_append_pq rfl _ _ rfl w.heap.size _ (prM m k) rfl HOW.out wr.heap.size k z rfl HAB.out HPL.out HBX.out ?_; intro v' w4 hO4 hg4; have HO4 := hid hO4; have HB4 := hid ((HB.out.trans (HAP.out.mono HB.out.size)).grown hg4 HBX.out (fun q hq => (HGE.out q hq).1)); clear hO4 hg4)
        go_roundw
        case rel => exact ⟨k + 1, by omega, by push_cast; rfl, by rw [HN.out]; exact HO4, HB4⟩
        case measure => simp [intOf]; omega
    · obtain rfl : k = NA := by omega
      have d0 := (HB.out.cell (p := ⟨g, 0, none⟩) hgl).trans p0
      have d1 := (HB.out.cell (p := ⟨g, 1, none⟩) hgl).trans p1
      have HRP : Hid (RdP wr _ (prM m k)) := hid (OwnPq.rdq HO.out)
      have HOF : Hid (∀ w', Below wr.heap.size wr w' → Calls Try.prog 45 #[u3, .int .i64 k, .int .i64 NB] w' fun e w'' => ∃ v', e = .returned (.tuple #[v', .nilIface]) ∧ OwnC w'' w.heap.size v' (Ed.ofL (prM m k) 0 0 k NB) ∧ Below w.heap.size w w'') := hid (fun w' hb' => by
        refine (Cx.of_any (n := (k : Int)) (m := (NB : Int)) (HRP.out.below hb') HWP.out (by have := prM_len m k; omega) (by rw [Ed.cnt_iff]; omega) (by rw [Ed.cnt_iff]; omega)).mono ?_
        rintro e w5 ⟨h5 | h5, hb5⟩
        · have := HRI.out
          rw [h5.1] at this
          cases this
        · obtain ⟨_, v5, rfl, hO5⟩ := h5
          have h0 := HB.out.trans (hb'.mono HB.out.size)
          exact ⟨v5, rfl, own_mono hO5 h0.size, h0.trans (hb5.mono h0.size)⟩)
      clear p0 p1 p2
      go_wp2_with fail
      go_region_with (go_at_call 45; refine (HOF.out _ (by first | exact Below.refl _ _ | exact below_drewN (Below.refl _ _) _)).mono ?_; rintro e w5 ⟨v5, rfl, hO5, hb5⟩; have HO5 := hid hO5; have HB5 := hid hb5; clear hO5 hb5)
      all_goals go_wp2
      all_goals go_ret
      all_goals exact ⟨_, rfl, HO5.out, HB5.out⟩
end Go.Proofs.Ytdilmgcdebobaaa
