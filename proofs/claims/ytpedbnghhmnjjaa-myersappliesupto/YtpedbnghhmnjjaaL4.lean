/-
  What the walk of settle leans on.
-/
import Derived.Test.YtpedbnghhmnjjaaL2
import Derived.Test.YtpedbnghhmnjjaaL3
import Derived.Deep.LoopGhost
import Derived.Deep.RegionHeld3
namespace Go.Proofs.Ytpedbnghhmnjjaa
open Go.RowKit
open Ed (Ch)

theorem Try.infoReach : (Try.prog.info? 62).map (fun i => (i.zero, i.size, i.bytes)) = some (some (.agg #[.int .i64 0, .int .i64 0]), 2, 16) := by kernel_rfl
theorem Try.infoBox : (Try.prog.info? 54).map (fun i => (i.zero, i.size, i.bytes)) = some (some (.agg #[.int .i64 0, .int .i64 0, .int .i64 0, .int .i64 0]), 4, 32) := by kernel_rfl
theorem mkR (n : Nat) (hn : n ≤ 100000000) (w : World) : (Instr.makeSlice 52 (.int .i64 (n : Int)) (.int .i64 (n : Int))).run Try.prog w = .ok (.slice (some ⟨w.heap.size, 0, none⟩) n n) (w.alloc (.cells (madeCells (Value.agg #[.int .i64 0, .int .i64 0]).cells (n * 2)) 62)) := by
  cases hi : Try.prog.info? 62 with
  | none => have h := Try.infoReach; rw [hi] at h; cases h
  | some i =>
    have h := Try.infoReach
    rw [hi] at h
    simp at h
    obtain ⟨h1, h2, h3⟩ := h
    have := run_make (P := Try.prog) w 52 62 i (.agg #[.int .i64 0, .int .i64 0]) Try.underlying52 hi h1 .i64 .i64 n n (by omega) (by omega) (by rw [h3]; omega) (by omega)
    rw [h2] at this
    simpa using this
/-- the stack of boxes -/
abbrev OwnX (w : World) (B : Nat) (v : Value) (l : List Ch) : Prop := w.ownsRow B 54 4 v l.length (csC l)
theorem ownX_pop {w : World} {B c : Nat} {a : Option Addr} {l : List Ch} {x : Ch} (h : OwnX w B (.slice a (l.length + 1) c) (l ++ [x])) : OwnX w B (.slice a l.length c) l := by
  have h' : w.ownsRow B 54 4 (.slice a (l.length + 1) c) (l.length + 1) (csC (l ++ [x])) := by
    have := h
    unfold OwnX at this
    rwa [List.length_append] at this
  refine ⟨csC_length l, ?_⟩
  rcases h'.2 with ⟨hv, hn⟩ | ⟨g, cap, cur, hv, hg, hh, hcp, hmx, hsz, ht⟩
  · cases hn
  · cases hv
    refine .inr ⟨g, c, cur, rfl, hg, hh, by omega, hmx, hsz, ?_⟩
    have e : cur.toList.take (l.length * 4) = (cur.toList.take ((l.length + 1) * 4)).take (l.length * 4) := by
      rw [List.take_take, show min (l.length * 4) ((l.length + 1) * 4) = l.length * 4 by omega]
    rw [e, ht, csC_append, List.take_append_of_le_length (by rw [csC_length]; exact Nat.le_refl _), List.take_of_length_le (by rw [csC_length]; exact Nat.le_refl _)]
theorem wpList_append_bx {w : World} {ops : Array Oper} {rest : List Oper} {o : Oper} {a : Act} {Q : Exit → Act → World → Prop} (hgd : o.guard = none) (s x : Operand)
    (ho : o.op = .call { callee := .builtin .append, args := #[s, x], argTypes := #[55, 55] }) (B : Nat) (v : Value) (l : List Ch) (hs : a.eval s = v) (hown : OwnX w B v l)
    (g : Nat) (c d : Ch) (hx : a.eval x = .slice (some ⟨g, 0, none⟩) 2 2) (hg : w.heap[g]? = some (.cells #[.int .i64 c.a, .int .i64 c.n, .int .i64 c.b, .int .i64 c.m, .int .i64 d.a, .int .i64 d.n, .int .i64 d.b, .int .i64 d.m] 54)) (hfit : l.length ≤ 1000000000) (hB : B ≤ w.heap.size)
    (h : ∀ v' w', OwnX w' B v' (l ++ [c, d]) → Below B w w' → wpList Try.prog ops Q rest (a.put o.dst v') w') : wpList Try.prog ops Q (o :: rest) a w := by
  obtain ⟨i0, hi, hz0, hz1, hz2⟩ := info_parts Try.infoBox
  refine wpList_append_lies _ hgd s x 55 ho B 54 i0 (.agg #[.int .i64 0, .int .i64 0, .int .i64 0, .int .i64 0]) 4 32 Try.underlying55 hi hz0 hz1 hz2 rfl (by decide) v l.length (csC l) hs hown ⟨g, 0, none⟩ 2 2 (cC c ++ cC d) hx rfl ?_ ?_ (by decide) ?_ ?_ hB w.heap.size rfl ?_
  · exact World.news_of_block (cs := #[.int .i64 c.a, .int .i64 c.n, .int .i64 c.b, .int .i64 c.m, .int .i64 d.a, .int .i64 d.n, .int .i64 d.b, .int .i64 d.m]) hg
  · have := csC_one [c, d]
    simpa [csC] using this
  · unfold maxLen; omega
  · omega
  · intro g' cap w' g2 g3 _ _
    refine h _ w' ?_ ((Below.refl _ _).grown g3 hB (own_ge hown))
    show w'.ownsRow _ _ _ _ _ _
    rw [List.length_append, csC_append]
    have e : csC [c, d] = cC c ++ cC d := by simp [csC]
    rw [e]; exact g2
/-- a part's place -/
def SubOf (g : Nat) (A : Option Addr) : Prop := ∃ o, A = some ⟨g, o, none⟩
theorem SubOf.part {g : Nat} {A : Option Addr} (h : SubOf g A) (c x : Nat) : SubOf g (if c = x then A else A.map (·.add x)) := by
  obtain ⟨o, rfl⟩ := h
  split
  · exact ⟨o, rfl⟩
  · exact ⟨o + x, by show some ((⟨g, o, none⟩ : Addr).add x) = _; rw [Go.WideShapes.add_plain]⟩
theorem SubOf.block {g : Nat} {A : Option Addr} (h : SubOf g A) {b o : Nat} (e : A = some ⟨b, o, none⟩) : b = g := by
  obtain ⟨o', rfl⟩ := h
  cases e; rfl
/-- how many rounds a stack may still take -/
def wtB (c : Ch) : Nat := let s := (c.b - c.a).toNat + (c.m - c.n).toNat; if s = 0 then 1 else 2 * s - 1
def wtS (l : List Ch) : Nat := (l.map wtB).sum
theorem wtS_app (l m : List Ch) : wtS (l ++ m) = wtS l + wtS m := by unfold wtS; rw [List.map_append, List.sum_append]
theorem wtB_pos (c : Ch) : 0 < wtB c := by unfold wtB; simp only; split <;> omega
/-- a box within the rows -/
structure BoxIn (n m : Nat) (c : Ch) : Prop where
  a0 : 0 ≤ c.a
  ab : c.a ≤ c.b
  bn : c.b ≤ n
  n0 : 0 ≤ c.n
  nm : c.n ≤ c.m
  mm : c.m ≤ m
theorem cut_take (l : List Int) {p q u : Nat} (h : u ≤ q - p) : (My.cut l p q).take u = My.cut l p (p + u) := by
  unfold My.cut
  rw [List.take_take, show min u (q - p) = u by omega, show p + u - p = u by omega]
theorem cut_drop (l : List Int) {p q u : Nat} : (My.cut l p q).drop u = My.cut l (p + u) q := by
  unfold My.cut
  rw [List.drop_take, List.drop_drop, show q - p - u = q - (p + u) by omega]
theorem cm_cut {N M a b : List Int} {x X y Y : Nat} (ha : a = My.cut N x X) (hb : b = My.cut M y Y) (hal : a.length = X - x) (hbl : b.length = Y - y) (h1 : My.hd a b + My.tl a b (My.hd a b) ≤ X - x) (h2 : My.hd a b + My.tl a b (My.hd a b) ≤ Y - y) :
    My.cm a b a = My.cut N (x + My.hd a b) (x + (X - x - My.tl a b (My.hd a b))) ∧ My.cm a b b = My.cut M (y + My.hd a b) (y + (Y - y - My.tl a b (My.hd a b))) := by
  constructor
  · unfold My.cm
    rw [hal]
    generalize My.tl a b (My.hd a b) = T at *
    generalize My.hd a b = H at *
    rw [ha, cut_drop, cut_take N (by omega), show x + H + (X - x - H - T) = x + (X - x - T) by omega]
  · unfold My.cm
    rw [hbl]
    generalize My.tl a b (My.hd a b) = T at *
    generalize My.hd a b = H at *
    rw [hb, cut_drop, cut_take M (by omega), show y + H + (Y - y - H - T) = y + (Y - y - T) by omega]
/-- two boxes in one's place -/
theorem wtS_two {s : List Ch} {x y X Y x1 y1 xm ym xe ye : Nat} (h1 : x ≤ x1) (h2 : x1 ≤ xm) (h3 : xm ≤ xe) (h4 : xe ≤ X) (k1 : y ≤ y1) (k2 : y1 ≤ ym) (k3 : ym ≤ ye) (k4 : ye ≤ Y) (p1 : 0 < (xm - x1) + (ym - y1)) (p2 : 0 < (xe - xm) + (ye - ym)) :
    wtS (s ++ [⟨x1, y1, xm, ym⟩, ⟨xm, ym, xe, ye⟩]) < wtS (s ++ [⟨x, y, X, Y⟩]) := by
  rw [wtS_app, wtS_app]
  have e : ∀ c d : Ch, wtS [c, d] = wtB c + wtB d := fun c d => by simp [wtS]
  have e2 : ∀ c : Ch, wtS [c] = wtB c := fun c => by simp [wtS]
  rw [e, e2]
  unfold wtB
  simp only
  split <;> split <;> split <;> omega
theorem goA_two (N M : List Int) (s : List Ch) (c d : Ch) (m : Nat → Bool) : My.goA N M (s ++ [c, d]) m = My.orAt (My.orAt (My.goA N M s m) c.a.toNat (My.bxm N M c).1) d.a.toNat (My.bxm N M d).1 := by unfold My.goA; rw [List.foldl_append]; rfl
theorem goB_two (N M : List Int) (s : List Ch) (c d : Ch) (m : Nat → Bool) : My.goB N M (s ++ [c, d]) m = My.orAt (My.orAt (My.goB N M s m) c.n.toNat (My.bxm N M c).2) d.n.toNat (My.bxm N M d).2 := by unfold My.goB; rw [List.foldl_append]; rfl
/-- a side in a world -/
structure Side (w : World) (g gn gp gc cap : Nat) (row : List Int) (p : Int → Bool) (mk : Nat → Bool) : Prop where
  blk : w.heap[g]? = some (.cells #[.slice (some ⟨gn, 0, none⟩) (row.filter p).length cap, .slice (some ⟨gp, 0, none⟩) (row.filter p).length cap, .slice (some ⟨gc, 0, none⟩) row.length row.length] 42)
  nums : RdI w (.slice (some ⟨gn, 0, none⟩) (row.filter p).length cap) (row.filter p)
  plcs : RdI w (.slice (some ⟨gp, 0, none⟩) (row.filter p).length cap) (pl0 p row 0)
  marks : BlR w gc (My.spread p row (My.tb (row.filter p).length mk))
theorem Side.kept {w w' : World} {g gn gp gc cap : Nat} {row : List Int} {p : Int → Bool} {mk : Nat → Bool} {X : Nat → Prop} (h : Side w g gn gp gc cap row p mk) (hK : Kept X w w') (h1 : ¬ X g) (h2 : ¬ X gn) (h3 : ¬ X gp) (h4 : ¬ X gc) : Side w' g gn gp gc cap row p mk := by
  have hp : RdX w (.slice (some ⟨gp, 0, none⟩) (row.filter p).length cap) (row.filter p).length (isC (pl0 p row 0)) := by have := h.plcs; unfold RdI at this; rwa [pl0_len] at this
  refine ⟨(hK.block g (lt_of_heap h.blk) h1).trans h.blk, h.nums.kept hK (fun b o e => by cases e; exact h2), ?_, h.marks.far (hK.block gc h.marks.lt h4)⟩
  show RdX w' _ (pl0 p row 0).length _
  rw [pl0_len]
  exact hp.kept hK (fun b o e => by cases e; exact h3)
/-- a side behind a change -/
theorem change_side {w : World} {g gn gp gc cap x n : Nat} {row : List Int} {p : Int → Bool} {mk : Nat → Bool} (h : Side w g gn gp gc cap row p mk) (hx : x + n ≤ (row.filter p).length) (hl : row.length ≤ 2000000) (h1 : g ≠ gc) (h2 : gn ≠ gc) (h3 : gp ≠ gc) :
    Calls Try.prog 29 #[.pointer (some ⟨g, 0, none⟩), .int .i64 (x : Int), .int .i64 (n : Int)] w fun e w' => e = .returned (.tuple #[]) ∧ Kept (fun j => j = gc) w w' ∧ Side w' g gn gp gc cap row p (My.orAt mk x (My.rep n true)) := by
  have hfl := List.length_filter_le p row
  have hC : (My.spread p row (My.tb (row.filter p).length mk)).length = row.length := My.spread_len _ _ _
  have hb := h.blk
  rw [← hC] at hb
  refine (change_any (x := x) (n := n) hb h.plcs h.marks (by rw [pl0_len]; exact hx) (by rw [pl0_len]; omega) (fun z hz => by rw [hC]; have := pl0_in p row 0 z hz; omega) h1 (fun b o n c e => by cases e; exact h3)).mono ?_
  rintro e w' ⟨rfl, hK, hB⟩
  refine ⟨rfl, hK, ?_⟩
  have h0 : My.spread p row (My.tb (row.filter p).length mk) = My.spread p row (My.tb (row.filter p).length mk) := rfl
  rw [mkl_spread p row _ (My.tb_len _ _) x n (by rw [My.tb_len]; exact hx), My.fill_tb _ _ _ _ hx] at hB
  have hp : RdX w (.slice (some ⟨gp, 0, none⟩) (row.filter p).length cap) (row.filter p).length (isC (pl0 p row 0)) := by have := h.plcs; unfold RdI at this; rwa [pl0_len] at this
  refine ⟨(hK.block g (lt_of_heap h.blk) h1).trans h.blk, h.nums.kept hK (fun b o e => by cases e; exact h2), ?_, hB⟩
  show RdX w' _ (pl0 p row 0).length _
  rw [pl0_len]
  exact hp.kept hK (fun b o e => by cases e; exact h3)
end Go.Proofs.Ytpedbnghhmnjjaa
