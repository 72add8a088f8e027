/-
  The walk of Apply.
-/
import Derived.Test.YtjgjfnmljmmplaaDoorC4
import Derived.Laws.CopyOwn
namespace Go.Proofs.YtjgjfnmljmmplaaDoor
open Go.RowKit
open Ed (Ch Run Pr)

theorem take_d {P : Program} {ops : Array Oper} {Q : Exit → Act → World → Prop} {md : Region.Mode} {S : World → Prop} {i : Nat} {oi : Oper} {v : Value} {fuel : Nat} {listed : Array Bool} {t : Array Value} {df : List Deferred} {w : World} (d : Nat) (hi : ops[i]? = some oi) (hd : oi.dst = some d)
    (hs : Region.noSelect ops = true) (hf : Region.free md ops listed i = true) (hr : (Region.ready md ops listed).contains i = true)
    (hQ : ∀ c a w, Q (.panic c) (a.put oi.dst v) w → Q (.panic c) a w) (hy : YieldsIf P ops S oi v ⟨t, df⟩) (hS : S w)
    (h : wpAnyH P md ops Q S fuel (listed.setIfInBounds i true) ⟨t.setIfInBounds d v, df⟩ w) : wpAnyH P md ops Q S (fuel + 1) listed ⟨t, df⟩ w :=
  wpAnyH_take hi hs hf hr hQ hy hS (by unfold Act.put; rw [hd]; exact h)
theorem wp_copy {P : Program} {o : Oper} {a : Act} {w : World} {K : Act → World → Prop} {Q : Exit → Act → World → Prop}
    (d s : Operand) (dT sT : TypeId) (ho : o.op = .call { callee := .builtin .copy, args := #[d, s], argTypes := #[dT, sT] }) (elem : TypeId) (hu : P.underlying dT = some (.slice elem)) (hsz : (P.info? elem).map (·.size) = some 1)
    (g off dLen dCap : Nat) (ad : Addr) (sLen sCap : Nat) (hd : a.eval d = .slice (some ⟨g, off, none⟩) dLen dCap) (hs : a.eval s = .slice (some ad) sLen sCap)
    (cur : Array Value) (t : TypeId) (hg : w.heap[g]? = some (.cells cur t (0, 0))) (cs : List Value) (hn : cs.length = Nat.min sLen dLen)
    (hsrc : ∀ j v, cs[j]? = some v → w.cell? (ad.add j) = some v) (hfit : off + cs.length ≤ cur.size) (h1 : ∀ v ∈ cs, v.oneCell' = true) (R : Array Value) (hR : (cur.toList.take off ++ (cs ++ cur.toList.drop (off + cs.length))).toArray = R)
    (hK : ∀ u, K (a.put o.dst u) (w.setRow g R)) : Oper.wp P o a w K Q := by
  have hrun := run_copy_row (P := P) w dT sT o.type elem g off dLen dCap ad sLen sCap cur t cs hu hsz hg hn hsrc hfit h1
  subst hR
  unfold Oper.wp
  simp [execOp, ho, resolve, invoke, builtin, hd, hs, hrun, Result.andThen]
  exact hK _
theorem setRow_heap (w : World) (g : Nat) (cur R : Array Value) (t : TypeId) (h : w.heap[g]? = some (.cells cur t)) : (w.setRow g R).heap[g]? = some (.cells R t) := by
  have hl := lt_of_heap h
  have he : w.heap[g] = .cells cur t := by rw [Array.getElem?_eq_getElem hl] at h; exact Option.some.inj h
  simp [World.setRow, hl, Array.getElem_modify, he]
theorem setRow_other (w : World) {g j : Nat} (R : Array Value) (h : j ≠ g) : (w.setRow g R).heap[j]? = w.heap[j]? := by
  simp [World.setRow, Array.getElem?_modify, Ne.symm h]
theorem setRow_size (w : World) (g : Nat) (R : Array Value) : (w.setRow g R).heap.size = w.heap.size := by simp [World.setRow]

def IRow (w : World) (g : Nat) (l : List Int) : Prop := w.heap[g]? = some (.cells (isC l).toArray 3)
/-- what Apply's function keeps -/
def ApI (va : Value) (a b : List Int) (gm bm ba : Nat) (B : Nat) (d : List Run) (X : Nat → Prop) (w : World) : Prop :=
  IRow w gm (Ed.apP d a b) ∧ w.cell? ⟨bm, 0, none⟩ = some (.slice (some ⟨gm, 0, none⟩) b.length b.length) ∧ w.cell? ⟨ba, 0, none⟩ = some va ∧ RdI w va a ∧ Under B va ∧ (Ed.apP d a b).length = b.length ∧ bm ≠ gm ∧ ba ≠ gm ∧ B ≤ gm ∧ X = fun k => k = gm
theorem ApI.later {va : Value} {a b : List Int} {gm bm ba B : Nat} {d : List Run} {X : Nat → Prop} {w w' : World} (h : ApI va a b gm bm ba B d X w) (hb : Below w.heap.size w w') : ApI va a b gm bm ba B d X w' := by
  obtain ⟨h1, h2, h3, h4, h5⟩ := h
  exact ⟨(hb.block gm (lt_of_heap h1)).trans h1, (hb.cell (p := ⟨bm, 0, none⟩) (lt_of_cell h2)).trans h2, (hb.cell (p := ⟨ba, 0, none⟩) (lt_of_cell h3)).trans h3, h4.below hb, h5⟩
theorem isC_take (l : List Int) (k : Nat) : (isC l).take k = isC (l.take k) := (List.map_take ..).symm
theorem isC_drop (l : List Int) (k : Nat) : (isC l).drop k = isC (l.drop k) := (List.map_drop ..).symm
theorem put_isC (a l : List Int) (x y k : Nat) (hx : x + k ≤ a.length) : ((isC l).toArray.toList.take y ++ (isC (Ed.sl a x k) ++ (isC l).toArray.toList.drop (y + (isC (Ed.sl a x k)).length))).toArray = (isC (Ed.put a l (x, y, k))).toArray := by
  have hlen : (isC (Ed.sl a x k)).length = k := by
    rw [isC_length]
    have := Ed.sl_length (l := a) (i := x) (k := k) (by omega) (by omega) (by omega)
    omega
  rw [hlen, List.toList_toArray, isC_take, isC_drop, ← isC_append, ← isC_append]
  unfold Ed.put
  simp only
  rw [show ((y : Int)).toNat = y by omega, show ((y : Int) + (k : Int)).toNat = y + k by omega, List.append_assoc]

theorem made_row {w : World} {B g n : Nat} (h : w.ownsRow B 3 1 (.slice (some ⟨g, 0, none⟩) n n) n (madeCells (Value.int .i64 0).cells (n * 1)).toList) : IRow w g (List.replicate n 0) := by
  rcases h.2 with ⟨hv, _⟩ | ⟨g', cap, cur, hv, hg, hh, hc, _, hsz, ht⟩
  · cases hv
  · cases hv
    have e : cur.toList = (madeCells (Value.int .i64 0).cells (n * 1)).toList := by
      rw [← ht, List.take_of_length_le]
      rw [Array.length_toList, hsz]
      exact Nat.le_refl _
    rw [show (Value.int .i64 0).cells = #[Value.int .i64 0] from rfl, toList_madeCells_one] at e
    have e2 : cur = (isC (List.replicate n 0)).toArray := by
      apply Array.ext'
      rw [e]
      simp [isC]
    rw [e2] at hh
    exact hh
theorem Tryd.infoInt : (Tryd.prog.info? 3).map (fun i => (i.zero, i.size, i.bytes)) = some (some (.int .i64 0), 1, 8) := by kernel_rfl
abbrev OwnI (w : World) (B : Nat) (v : Value) (l : List Int) : Prop := w.ownsRow B 3 1 v l.length (isC l)
theorem IRow.own {w : World} {B g n : Nat} {l : List Int} (h : IRow w g l) (hl : l.length = n) (hB : B ≤ g) (hn : n ≤ maxLen) : OwnI w B (.slice (some ⟨g, 0, none⟩) n n) l := by
  subst hl
  exact ⟨by rw [isC_length, Nat.mul_one], .inr ⟨g, l.length, (isC l).toArray, rfl, hB, h, Nat.le_refl _, hn, by rw [List.size_toArray, isC_length, Nat.mul_one], by rw [List.toList_toArray, Nat.mul_one]; exact List.take_of_length_le (Nat.le_of_eq (isC_length l))⟩⟩

end Go.Proofs.YtjgjfnmljmmplaaDoor
