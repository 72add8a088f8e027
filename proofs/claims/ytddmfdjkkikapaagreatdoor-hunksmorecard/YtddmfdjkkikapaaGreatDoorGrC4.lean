/-
  Several texts in one: C4, C5, D1.
-/
import Derived.Test.YtddmfdjkkikapaaGreatDoorGrC3
import Derived.Laws.CopyOwn
/-
  The walks of (*writer).ended and Normal.
-/
namespace Go.Proofs.YtddmfdjkkikapaaGreatDoor
open Go.RowKit
open Ed (Ch Run Pr)

theorem val_len {s : List Ch} {a b n m : Int} (h : Ed.val s a b n m = true) (ha : a ≤ n) (hb : b ≤ m) : (s.length : Int) ≤ (n - a) + (m - b) := by
  induction s generalizing a b with
  | nil => simp; omega
  | cons c r ih =>
    obtain ⟨⟨h1, h2, h3, h4⟩, hr⟩ := Ed.val_cons.1 h
    have := ih hr (by omega) (by omega)
    rw [List.length_cons]
    push_cast
    omega
theorem Val_len {s : List Ch} {n m : Int} (h : Ed.Val s n m) : s.length ≤ 8388608 := by
  have hn := Ed.cnt_iff.1 h.1
  have hm := Ed.cnt_iff.1 h.2.1
  have := val_len h.2.2 hn.1 hm.1
  omega
theorem run1_len (a b k : Int) : (Ed.run1 a b k).length ≤ 1 := by
  unfold Ed.run1; split <;> simp
theorem runs_len : ∀ (s : List Ch) (n a b : Int), (Ed.runs s n a b).length ≤ s.length + 1
  | [], n, a, b => run1_len _ _ _
  | c :: r, n, a, b => by
    rw [Ed.runs, List.length_append, List.length_cons]
    have h1 := run1_len a b (c.a - a)
    have h2 := runs_len r n (c.a + c.n) (c.b + c.m)
    omega
theorem gap_len (a b x y : Int) : (Ed.gap a b x y).length ≤ 1 := by
  unfold Ed.gap; split <;> simp
theorem stay_len : ∀ (d : List Run) (st : WS), (d.foldl stayP st).1.length ≤ st.1.length + d.length
  | [], st => Nat.le_refl _
  | r :: d, st => by
    rw [List.foldl_cons, List.length_cons]
    have h1 := stay_len d (stayP st r)
    have h2 := gap_len st.2.1 st.2.2 r.1 r.2.1
    have h3 : (stayP st r).1.length = st.1.length + (Ed.gap st.2.1 st.2.2 r.1 r.2.1).length := by unfold stayP; rw [List.length_append]
    omega
theorem wrC_len (d : List Run) : (wrC d).1.length ≤ d.length := by
  have := stay_len d ([], 0, 0)
  simpa [wrC] using this

set_option maxHeartbeats 1000000 in
theorem ended_any {B g : Nat} {st : WS} {X : Nat → Prop} {n m : Int} {w : World} (hW : WrAt B g st X w) (hl : st.1.length ≤ 1000000000) (hB : B ≤ w.heap.size) (ha : 0 ≤ st.2.1) (hb : 0 ≤ st.2.2) (h4 : st.2.1 ≤ 100000000) (h5 : st.2.2 ≤ 100000000) (hn : 0 ≤ n) (hm : 0 ≤ m) (h1 : n ≤ 4194304) (h2 : m ≤ 4194304) :
    Calls Tryz.prog 70 #[.pointer (some ⟨g, 0, none⟩), .int .i64 n, .int .i64 m] w fun e w' => ∃ v, e = .returned v ∧ OwnC w' B v (stayP st (n, m, 0)).1 ∧ Kept X w w' := by
  have HC := hid (stay_any (r := (n, m, 0)) hW hl hB ha hb hn hm (Int.le_refl _) h1 h2 (by simp only; omega) h4 h5)
  unfold rV at HC
  clear hW
  go_enter Tryz.func70, Tryz.ntmps70
  go_wp2_with fail
  refine HC.out.mono ?_
  rintro e w1 ⟨rfl, hK, X', v, hg, hO, hne, hBg, _⟩
  have k0 : w1.cell? ⟨g, 0, none⟩ = some v := cell_of_blk hg 0
  have HO := hid hO
  have HK := hid hK
  clear hO hK hg HC
  go_wp2
  go_ret
  exact ⟨v, rfl, HO.out, HK.out⟩

/-- what Normal's function keeps -/
def NrI (B g : Nat) (N : Int) (d : List Run) (X : Nat → Prop) (w : World) : Prop := WrAt B g (wrC d) X w ∧ 0 ≤ (wrC d).2.1 ∧ (wrC d).2.1 ≤ N ∧ 0 ≤ (wrC d).2.2 ∧ (wrC d).2.2 ≤ N
theorem runB_le {n m : Int} {r : Run} (h : RunB n m r) (hn : n ≤ 4194304) (hm : m ≤ 4194304) : 0 ≤ r.1 ∧ r.1 ≤ 4194304 ∧ 0 ≤ r.2.1 ∧ r.2.1 ≤ 4194304 ∧ 0 ≤ r.2.2 ∧ r.2.2 ≤ 4194304 := by
  obtain ⟨h1, h2, h3, h4, h5⟩ := h; omega
theorem NrI.next {B g : Nat} {n m : Int} {d : List Run} {r : Run} {X' : Nat → Prop} {w : World} (h : WrAt B g (stayP (wrC d) r) X' w) (hr : RunB n m r) (hn : n ≤ 4194304) (hm : m ≤ 4194304) : NrI B g 4194304 (d ++ [r]) X' w := by
  unfold NrI
  rw [wrC_snoc]
  obtain ⟨h1, h2, h3, h4, h5⟩ := hr
  refine ⟨h, ?_, ?_, ?_, ?_⟩ <;> (unfold stayP; simp only; omega)

set_option maxHeartbeats 1000000 in
theorem normalF_any {B g : Nat} {n m : Int} {d : List Run} {r : Run} {X : Nat → Prop} {w : World} (hI : NrI B g 4194304 d X w) (hr : RunB n m r) (hB : B ≤ w.heap.size) (hn : n ≤ 4194304) (hm : m ≤ 4194304) (hd : d.length ≤ 1000000000) :
    Calls Tryz.prog 68 #[rV r, .pointer (some ⟨g, 0, none⟩)] w fun e w' => e = .returned (.tuple #[]) ∧ Kept X w w' ∧ ∃ X', NrI B g 4194304 (d ++ [r]) X' w' := by
  obtain ⟨hW, i1, i2, i3, i4⟩ := hI
  obtain ⟨b1, b2, b3, b4, b5, b6⟩ := runB_le hr hn hm
  have hlen := wrC_len d
  have hb0 : Below w.heap.size w (w.alloc (.cells #[.int .i64 r.1, .int .i64 r.2.1, .int .i64 r.2.2] 118)) := (Below.refl _ _).alloc (Nat.le_refl _) _
  have HC := hid (stay_any (r := r) (hW.later hb0) (by omega) (Nat.le_trans hB hb0.size) i1 i3 b1 b3 b5 b2 b4 b6 (by omega) (by omega))
  have HIN := hid hW.in
  have HR := hid hr
  clear hW hr
  unfold rV at HC ⊢
  go_enter Tryz.func68, Tryz.ntmps68
  go_wp2_with fail
  refine HC.out.mono ?_
  rintro e w1 ⟨rfl, hK, X', hW'⟩
  have HE : Hid (Kept X w w1) := hid ⟨hK.os.trans hb0.os, hK.tape.trans hb0.tape, hK.output.trans hb0.output, Nat.le_trans hb0.size hK.size, fun k hk hx => (hK.block k (Nat.lt_of_lt_of_le hk hb0.size) hx).trans (hb0.block k hk)⟩
  have HW := hid (NrI.next hW' HR.out hn hm)
  clear hK hW' HC
  go_wp2
  exact bodyPost_end (v := .tuple #[]) (by simp [results, Tryz.results68]) rfl ⟨rfl, HE.out, X', HW.out⟩

set_option maxHeartbeats 2000000 in
theorem normal_any {v : Value} {s : List Ch} {n m : Int} {w : World} (hr : RdC w v s) (hwf : ∀ c ∈ s, WfC c) (hV : Ed.Val s n m) :
    Calls Tryz.prog 27 #[v, .int .i64 n, .int .i64 m] w fun e w' => ∃ v', e = .returned (.tuple #[v', .nilIface]) ∧ OwnC w' w.heap.size v' (Ed.normal s n m) ∧ Below w.heap.size w w' := by
  have hl := Val_len hV
  have hn := Ed.cnt_iff.1 hV.1
  have hm := Ed.cnt_iff.1 hV.2.1
  obtain ⟨a, c, rfl⟩ := hr.shape
  have HR := hid hr
  have HWF := hid hwf
  have HV := hid hV
  have hz := Ed.validN_zero.2 hV
  have HZ := hid hz
  obtain ⟨hn0, hn1⟩ := hn
  obtain ⟨hm0, hm1⟩ := hm
  clear hr hwf hV hz
  go_enter Tryz.func27, Tryz.ntmps27
  go_wp2_with fail
  refine (valid_any HR.out HWF.out (by omega)).mono ?_
  rintro e w1 ⟨rfl, hb1⟩
  rw [HZ.out, errV_zero]
  have hg1 := heap_alloc_new w1 (.cells #[.slice none 0 0, .int .i64 0, .int .i64 0] 115)
  have hb2 : Below w.heap.size w (w1.alloc (.cells #[.slice none 0 0, .int .i64 0, .int .i64 0] 115)) := hb1.alloc hb1.size _
  have HW0 : Hid (WrAt w.heap.size w1.heap.size (wrC []) (fun k => k = w1.heap.size ∨ (Value.slice none 0 0).ownBlock = some k) (w1.alloc (.cells #[.slice none 0 0, .int .i64 0, .int .i64 0] 115))) := hid ⟨_, hg1, World.ownsRow_nil _ _ _ _, (by intro h; cases h), hb1.size, rfl⟩
  have HB2 := hid hb2
  have hsz : w1.heap.size < (w1.alloc (.cells #[.slice none 0 0, .int .i64 0, .int .i64 0] 115)).heap.size := by simp
  have HC := hid (eachRun_any (B := w.heap.size) 68 (fun _ _ => by kernel_rfl) #[.pointer (some ⟨w1.heap.size, 0, none⟩)] (NrI w.heap.size w1.heap.size 4194304) (HR.out.below hb2) HR.out.under hb2.size HV.out (by omega) (fun d X wa wb hI hb => ⟨hI.1.later hb, hI.2⟩) (fun d X wa hI => hI.1.in) (X0 := fun k => k = w1.heap.size ∨ (Value.slice none 0 0).ownBlock = some k) ⟨HW0.out, by simp [wrC], by simp [wrC], by simp [wrC], by simp [wrC]⟩
    (fun d X r wa hI hrb hba hrest => normalF_any hI hrb (Nat.le_trans hb2.size hba.size) hn1 hm1 (by
      obtain ⟨rest, hrest⟩ := hrest
      have h1 := runs_len s n 0 0
      rw [hrest, List.length_append] at h1
      omega)))
  clear hg1 hb1
  go_wp2_with fail
  refine HC.out.mono ?_
  rintro e w2 ⟨rfl, hb3, X, hW, i1, i2, i3, i4⟩
  have hlen : (wrC (Ed.runs s n 0 0)).1.length ≤ 1000000000 := by
    have h1 := wrC_len (Ed.runs s n 0 0)
    have h2 := runs_len s n 0 0
    omega
  have HB3 := hid (HB2.out.trans hb3)
  have HIN := hid hW.in
  have HE := hid (ended_any (n := n) (m := m) hW hlen (HB2.out.trans hb3).size i1 i3 (by omega) (by omega) hn0 hm0 hn1 hm1)
  clear hW hb3 hlen HC HW0 hb2
  go_wp2_with fail
  refine HE.out.mono ?_
  rintro e w3 ⟨v', rfl, hO, hK⟩
  have HO : Hid (OwnC w3 w.heap.size v' (Ed.normal s n m)) := hid (by
    have h := hO
    rw [wrC_ended] at h
    exact h)
  have HB4 := hid (HB3.out.trans (hK.below (fun k hk => (HIN.out k hk).1) HB3.out.size))
  clear hO hK HE
  go_wp2
  go_ret2
  exact ⟨v', rfl, HO.out, HB4.out⟩
end Go.Proofs.YtddmfdjkkikapaaGreatDoor
/-
  The walk of Apply.
-/
namespace Go.Proofs.YtddmfdjkkikapaaGreatDoor
open Go.RowKit
open Ed (Ch Run Pr)

theorem take_d {P : Program} {ops : Array Oper} {Q : Exit → Act → World → Prop} {md : Region.Mode} {S : World → Prop} {i : Nat} {oi : Oper} {v : Value} {fuel : Nat} {listed : Array Bool} {t : Array Value} {df : List Deferred} {w : World} (d : Nat) (hi : ops[i]? = some oi) (hd : oi.dst = some d)
    (hs : Region.noSelect ops = true) (hf : Region.free md ops listed i = true) (hr : (Region.ready md ops listed).contains i = true)
    (hQ : ∀ c a w, Q (.panic c) (a.put oi.dst v) w → Q (.panic c) a w) (hy : YieldsIf P ops S oi v ⟨t, df⟩) (hS : S w)
    (h : wpAnyH P md ops Q S fuel (listed.setIfInBounds i true) ⟨t.setIfInBounds d v, df⟩ w) : wpAnyH P md ops Q S (fuel + 1) listed ⟨t, df⟩ w :=
  wpAnyH_take hi hs hf hr hQ hy hS (by unfold Act.put; rw [hd]; exact h)
theorem wp_copy {P : Program} {o : Oper} {a : Act} {w : World} {K : Act → World → Prop} {Q : Exit → Act → World → Prop}
    (d s : Operand) (dT sT : TypeId) (ho : o.op = .call { callee := .builtin .copy, args := #[d, s], argTypes := #[dT, sT] }) (elem : TypeId) (hu : P.underlying dT = some (.slice elem)) (hsz : (P.info? elem).map (·.size) = some 1)
    (g off dLen dCap : Nat) (ad : Addr) (sLen sCap : Nat) (hd : a.eval d = .slice (some ⟨g, off, none⟩) dLen dCap) (hs : a.eval s = .slice (some ad) sLen sCap)
    (cur : Array Value) (t : TypeId) (hg : w.heap[g]? = some (.cells cur t (0, 0))) (cs : List Value) (hn : cs.length = Nat.min sLen dLen)
    (hsrc : ∀ j v, cs[j]? = some v → w.cell? (ad.add j) = some v) (hfit : off + cs.length ≤ cur.size) (h1 : ∀ v ∈ cs, v.oneCell' = true) (R : Array Value) (hR : (cur.toList.take off ++ (cs ++ cur.toList.drop (off + cs.length))).toArray = R)
    (hK : ∀ u, K (a.put o.dst u) (w.setRow g R)) : Oper.wp P o a w K Q := by
  have hrun := run_copy_row (P := P) w dT sT o.type elem g off dLen dCap ad sLen sCap cur t cs hu hsz hg hn hsrc hfit h1
  subst hR
  unfold Oper.wp
  simp [execOp, ho, resolve, invoke, builtin, hd, hs, hrun, Result.andThen]
  exact hK _
theorem setRow_heap (w : World) (g : Nat) (cur R : Array Value) (t : TypeId) (h : w.heap[g]? = some (.cells cur t)) : (w.setRow g R).heap[g]? = some (.cells R t) := by
  have hl := lt_of_heap h
  have he : w.heap[g] = .cells cur t := by rw [Array.getElem?_eq_getElem hl] at h; exact Option.some.inj h
  simp [World.setRow, hl, Array.getElem_modify, he]
theorem setRow_other (w : World) {g j : Nat} (R : Array Value) (h : j ≠ g) : (w.setRow g R).heap[j]? = w.heap[j]? := by
  simp [World.setRow, Array.getElem?_modify, Ne.symm h]
theorem setRow_size (w : World) (g : Nat) (R : Array Value) : (w.setRow g R).heap.size = w.heap.size := by simp [World.setRow]

def IRow (w : World) (g : Nat) (l : List Int) : Prop := w.heap[g]? = some (.cells (isC l).toArray 3)
/-- what Apply's function keeps -/
def ApI (va : Value) (a b : List Int) (gm bm ba : Nat) (B : Nat) (d : List Run) (X : Nat → Prop) (w : World) : Prop :=
  IRow w gm (Ed.apP d a b) ∧ w.cell? ⟨bm, 0, none⟩ = some (.slice (some ⟨gm, 0, none⟩) b.length b.length) ∧ w.cell? ⟨ba, 0, none⟩ = some va ∧ RdI w va a ∧ Under B va ∧ (Ed.apP d a b).length = b.length ∧ bm ≠ gm ∧ ba ≠ gm ∧ B ≤ gm ∧ X = fun k => k = gm
theorem ApI.later {va : Value} {a b : List Int} {gm bm ba B : Nat} {d : List Run} {X : Nat → Prop} {w w' : World} (h : ApI va a b gm bm ba B d X w) (hb : Below w.heap.size w w') : ApI va a b gm bm ba B d X w' := by
  obtain ⟨h1, h2, h3, h4, h5⟩ := h
  exact ⟨(hb.block gm (lt_of_heap h1)).trans h1, (hb.cell (p := ⟨bm, 0, none⟩) (lt_of_cell h2)).trans h2, (hb.cell (p := ⟨ba, 0, none⟩) (lt_of_cell h3)).trans h3, h4.below hb, h5⟩
theorem isC_take (l : List Int) (k : Nat) : (isC l).take k = isC (l.take k) := (List.map_take ..).symm
theorem isC_drop (l : List Int) (k : Nat) : (isC l).drop k = isC (l.drop k) := (List.map_drop ..).symm
theorem put_isC (a l : List Int) (x y k : Nat) (hx : x + k ≤ a.length) : ((isC l).toArray.toList.take y ++ (isC (Ed.sl a x k) ++ (isC l).toArray.toList.drop (y + (isC (Ed.sl a x k)).length))).toArray = (isC (Ed.put a l (x, y, k))).toArray := by
  have hlen : (isC (Ed.sl a x k)).length = k := by
    rw [isC_length]
    have := Ed.sl_length (l := a) (i := x) (k := k) (by omega) (by omega) (by omega)
    omega
  rw [hlen, List.toList_toArray, isC_take, isC_drop, ← isC_append, ← isC_append]
  unfold Ed.put
  simp only
  rw [show ((y : Int)).toNat = y by omega, show ((y : Int) + (k : Int)).toNat = y + k by omega, List.append_assoc]

theorem made_row {w : World} {B g n : Nat} (h : w.ownsRow B 3 1 (.slice (some ⟨g, 0, none⟩) n n) n (madeCells (Value.int .i64 0).cells (n * 1)).toList) : IRow w g (List.replicate n 0) := by
  rcases h.2 with ⟨hv, _⟩ | ⟨g', cap, cur, hv, hg, hh, hc, _, hsz, ht⟩
  · cases hv
  · cases hv
    have e : cur.toList = (madeCells (Value.int .i64 0).cells (n * 1)).toList := by
      rw [← ht, List.take_of_length_le]
      rw [Array.length_toList, hsz]
      exact Nat.le_refl _
    rw [show (Value.int .i64 0).cells = #[Value.int .i64 0] from rfl, toList_madeCells_one] at e
    have e2 : cur = (isC (List.replicate n 0)).toArray := by
      apply Array.ext'
      rw [e]
      simp [isC]
    rw [e2] at hh
    exact hh
theorem Tryz.infoInt : (Tryz.prog.info? 3).map (fun i => (i.zero, i.size, i.bytes)) = some (some (.int .i64 0), 1, 8) := by kernel_rfl
abbrev OwnI (w : World) (B : Nat) (v : Value) (l : List Int) : Prop := w.ownsRow B 3 1 v l.length (isC l)
theorem IRow.own {w : World} {B g n : Nat} {l : List Int} (h : IRow w g l) (hl : l.length = n) (hB : B ≤ g) (hn : n ≤ maxLen) : OwnI w B (.slice (some ⟨g, 0, none⟩) n n) l := by
  subst hl
  exact ⟨by rw [isC_length, Nat.mul_one], .inr ⟨g, l.length, (isC l).toArray, rfl, hB, h, Nat.le_refl _, hn, by rw [List.size_toArray, isC_length, Nat.mul_one], by rw [List.toList_toArray, Nat.mul_one]; exact List.take_of_length_le (Nat.le_of_eq (isC_length l))⟩⟩

theorem copy_all {W : World} {gm cb n : Nat} {b l0 : List Int} {ab : Option Addr} (ty : TypeId) (hrow : IRow W gm l0) (hl0 : l0.length = b.length) (hn : n = b.length) (hrd : RdI W (.slice ab b.length cb) b) :
    ∃ u w3, (Builtin.copy_ #[106, 106] ty #[.slice (some ⟨gm, 0, none⟩) n n, .slice ab b.length cb]).run Tryz.prog W = .ok u w3 ∧ IRow w3 gm b ∧ Kept (fun k => k = gm) W w3 := by
  subst hn
  have hsz : (Tryz.prog.info? 3).map (·.size) = some 1 := by kernel_rfl
  by_cases h0 : b.length = 0
  · refine ⟨_, W, run_copy_none (P := Tryz.prog) W 106 106 ty 3 _ _ _ _ _ _ Tryz.underlying106 hsz (by rw [h0]; rfl), ?_, rfl, rfl, rfl, Nat.le_refl _, fun _ _ _ => rfl⟩
    have e1 : b = [] := List.length_eq_zero_iff.1 h0
    have e2 : l0 = [] := List.length_eq_zero_iff.1 (by omega)
    rw [e1]; rw [e2] at hrow; exact hrow
  · obtain ⟨z, hz⟩ : ∃ z, b[0]? = some z := ⟨_, List.getElem?_eq_getElem (by omega)⟩
    obtain ⟨bb, bo, rfl, _, _⟩ := rdI_at hrd hz
    have hR : ((isC l0).toArray.toList.take 0 ++ isC b ++ (isC l0).toArray.toList.drop (0 + (isC b).length)).toArray = (isC b).toArray := by
      rw [List.toList_toArray, List.take_zero, List.nil_append, isC_length, Nat.zero_add, List.drop_eq_nil_of_le (by rw [isC_length]; omega), List.append_nil]
    have hrun := run_copy_row (P := Tryz.prog) W 106 106 ty 3 gm 0 b.length b.length ⟨bb, bo, none⟩ b.length cb (isC l0).toArray 3 (isC b) Tryz.underlying106 hsz hrow (by rw [isC_length]; exact (Nat.min_self _).symm) (by
      intro j u hj
      unfold isC at hj
      rw [List.getElem?_map] at hj
      cases hx : b[j]? with
      | none => rw [hx] at hj; cases hj
      | some z =>
        rw [hx] at hj
        simp at hj
        subst hj
        obtain ⟨b', o', hv, _, hc⟩ := rdI_at hrd hx
        cases hv
        rw [Go.WideShapes.add_plain]
        exact hc) (by rw [isC_length, List.size_toArray, isC_length]; omega) (isC_one b)
    rw [hR] at hrun
    refine ⟨_, _, hrun, setRow_heap W gm _ _ _ hrow, rfl, rfl, rfl, by rw [setRow_size]; exact Nat.le_refl _, fun j _ hx => setRow_other _ _ hx⟩

end Go.Proofs.YtddmfdjkkikapaaGreatDoor
/-
  The walk of Of.
-/
namespace Go.Proofs.YtddmfdjkkikapaaGreatDoor
open Go.RowKit
open Ed (Ch Run Pr)

def toR (p : Pr) : Run := (p.1, p.2, 1)
def WfP (p : Pr) : Prop := I64 p.1 ∧ I64 p.2
def ofN (P : List Pr) (n m : Int) : Nat := if Ed.cnt n && Ed.cnt m then (if Ed.rise P 0 0 n m then 0 else 60) else 1
theorem ofR_pairs (P : List Pr) : ∀ a b n m : Int, Ed.ofR (P.map toR) a b n m = Ed.ofL P a b n m := by
  induction P with
  | nil => intro a b n m; rfl
  | cons p P ih =>
    intro a b n m
    rw [List.map_cons, Ed.ofR, Ed.ofL, ih]
    rfl
theorem take_map {P : List Pr} {k : Nat} {p : Pr} (h : P[k]? = some p) : (P.take (k + 1)).map toR = (P.take k).map toR ++ [toR p] := by
  rw [List.take_add_one, h]; simp
/-- the writer after k pairs -/
def OfI (B g : Nat) (P : List Pr) (n m : Int) (k : Nat) (a b : Int) (w : World) : Prop :=
  (∃ X, WrAt B g (wrC ((P.take k).map toR)) X w) ∧ (wrC ((P.take k).map toR)).2.1 = a ∧ (wrC ((P.take k).map toR)).2.2 = b ∧ Ed.rise P 0 0 n m = Ed.rise (P.drop k) a b n m

end Go.Proofs.YtddmfdjkkikapaaGreatDoor
