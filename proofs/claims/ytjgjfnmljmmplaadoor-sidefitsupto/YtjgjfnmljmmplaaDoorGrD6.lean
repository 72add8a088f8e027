/-
  Several texts in one: D6, D7.
-/
import Derived.Test.YtjgjfnmljmmplaaDoorC7
import Derived.Test.YtjgjfnmljmmplaaDoorC4
import Derived.OwnWalk
import Derived.Test.YtjgjfnmljmmplaaDoorD5
/-
  The walk of Pairs.
-/
namespace Go.Proofs.YtjgjfnmljmmplaaDoor
open Go.RowKit
open Ed (Ch Run Pr)

theorem Tryd.infoPairT : (Tryd.prog.info? 106).map (fun i => (i.zero, i.size, i.bytes)) = some (some (.agg #[.int .i64 0, .int .i64 0]), 2, 16) := by kernel_rfl
abbrev OwnP (w : World) (B : Nat) (v : Value) (l : List Pr) : Prop := w.ownsRow B 106 2 v l.length (psC l)
/-- a variable in block g holds a row of pairs of the call's own -/
def PrAt (B g : Nat) (l : List Pr) (X : Nat → Prop) (w : World) : Prop :=
  ∃ v, w.heap[g]? = some (.cells #[v] 72) ∧ OwnP w B v l ∧ v.ownBlock ≠ some g ∧ B ≤ g ∧ X = fun k => k = g ∨ v.ownBlock = some k
theorem PrAt.later {B g : Nat} {l : List Pr} {X : Nat → Prop} {w w' : World} (h : PrAt B g l X w) (hb : Below w.heap.size w w') : PrAt B g l X w' := by
  obtain ⟨v, h1, h2, h3, h4, h5⟩ := h
  exact ⟨v, (hb.block g (lt_of_heap h1)).trans h1, own_stays h2 hb, h3, h4, h5⟩
theorem PrAt.in {B g : Nat} {l : List Pr} {X : Nat → Prop} {w : World} (h : PrAt B g l X w) : ∀ k, X k → B ≤ k ∧ k < w.heap.size := by
  obtain ⟨v, h1, h2, h3, h4, rfl⟩ := h
  intro k hk
  rcases hk with rfl | hk
  · exact ⟨h4, lt_of_heap h1⟩
  · exact ⟨own_ge h2 k hk, own_lt h2 k hk⟩
theorem rise_len {P : List Pr} {a b n m : Int} (h : Ed.rise P a b n m = true) (ha : a ≤ n) : (P.length : Int) ≤ n - a := by
  induction P generalizing a b with
  | nil => simp; omega
  | cons p P ih =>
    obtain ⟨hp, hr⟩ := Ed.rise_cons.1 h
    have := ih hr (by omega)
    rw [List.length_cons]
    push_cast
    omega
theorem exN_snoc (x y : Int) (i : Nat) : Ed.exN x y (i + 1) = Ed.exN x y i ++ [(x + i, y + i)] := by
  rw [Ed.exN_add]; rfl
/-- one more pair: what append leaves, stored -/
theorem PrAt.push {B g gg cap : Nat} {l : List Pr} {X : Nat → Prop} {p : Pr} {w0 w1 w2 : World} (h : PrAt B g l X w0) {v : Value} (hv : w0.heap[g]? = some (.cells #[v] 72)) (hb : Below w0.heap.size w0 w1) (hgrow : w1.grownBy w2 v.ownBlock) (hown : w2.ownsRow B 106 2 (.slice (some ⟨gg, 0, none⟩) (l.length + 1) cap) (l.length + 1) (psC l ++ [.int .i64 p.1, .int .i64 p.2])) (hat : v.ownBlock = some gg ∨ w0.heap.size ≤ gg) :
    (∃ X', PrAt B g (l ++ [p]) X' (w2.setCell ⟨g, 0, none⟩ (.slice (some ⟨gg, 0, none⟩) (l.length + 1) cap)) ∧ ∀ k, X' k → X k ∨ w0.heap.size ≤ k) ∧ Kept X w0 (w2.setCell ⟨g, 0, none⟩ (.slice (some ⟨gg, 0, none⟩) (l.length + 1) cap)) := by
  obtain ⟨v', h1, h2, h3, h4, rfl⟩ := h
  have e : v' = v := by
    rw [h1] at hv
    injection hv with hv
    injection hv with hv
    simpa using hv
  subst e
  have lg := lt_of_heap h1
  have hgg : gg ≠ g := by
    rcases hat with h | h
    · intro e; subst e; exact h3 h
    · omega
  have hg2 : w2.heap[g]? = some (.cells #[v'] 72) := (hgrow.block g (Nat.lt_of_lt_of_le lg hb.size) (Ne.symm h3)).trans ((hb.block g lg).trans h1)
  have hg3 := set_heap w2 g 0 _ _ (.slice (some ⟨gg, 0, none⟩) (l.length + 1) cap) hg2
  refine ⟨⟨_, ⟨.slice (some ⟨gg, 0, none⟩) (l.length + 1) cap, hg3, ?_, fun h => by cases h; exact hgg rfl, h4, rfl⟩, ?_⟩, ?_⟩
  · show World.ownsRow _ _ _ _ _ _ _
    rw [List.length_append, psC_append]
    exact own_far hown (fun k hk => by cases hk; exact set_other w2 hgg)
  · intro k hk
    rcases hk with rfl | hk
    · exact .inl (.inl rfl)
    · cases hk
      rcases hat with h | h
      · exact .inl (.inr h)
      · exact .inr h
  · refine ⟨?_, ?_, ?_, ?_, fun k hk hx => ?_⟩
    · exact (set_os _ _ _ _).trans (hgrow.os.trans hb.os)
    · exact (set_tape _ _ _ _).trans (hgrow.tape.trans hb.tape)
    · exact (set_output _ _ _ _).trans (hgrow.output.trans hb.output)
    · rw [set_size]; exact Nat.le_trans hb.size hgrow.size
    · have hkg : k ≠ g := fun e => hx (.inl e)
      have hkr : v'.ownBlock ≠ some k := fun e => hx (.inr e)
      rw [set_other w2 hkg, hgrow.block k (Nat.lt_of_lt_of_le hk hb.size) (Ne.symm hkr)]
      exact hb.block k hk
theorem Kept.step {X X' : Nat → Prop} {w w1 w2 : World} (h : Kept X w w1) (h' : Kept X' w1 w2) (hX : ∀ k, X' k → X k ∨ w.heap.size ≤ k) : Kept X w w2 :=
  ⟨h'.os.trans h.os, h'.tape.trans h.tape, h'.output.trans h.output, Nat.le_trans h.size h'.size, fun g hg hx => (h'.block g (Nat.lt_of_lt_of_le hg h.size) (fun hx' => by
    rcases hX g hx' with q | q
    · exact hx q
    · omega)).trans (h.block g hg hx)⟩

theorem exs_snoc (d : List Run) (r : Run) : Ed.exs (d ++ [r]) = Ed.exs d ++ Ed.ex r := by
  rw [Ed.exs_append]; simp [Ed.exs]
end Go.Proofs.YtjgjfnmljmmplaaDoor
/-
  Normal and Pairs with Valid's error.
-/
namespace Go.Proofs.YtjgjfnmljmmplaaDoor
open Go.RowKit
open Ed (Ch Run Pr)

/-- the normal script, the pairs, where s is a script -/
def nrmA (s : List Ch) (n m : Int) : List Ch := if Ed.validN s n m = 0 then Ed.normal s n m else []
def prsA (s : List Ch) (n m : Int) : List Pr := if Ed.validN s n m = 0 then Ed.prs s n 0 0 else []
set_option maxHeartbeats 1000000 in
theorem normal_all {v : Value} {s : List Ch} {n m : Int} {w : World} (hr : RdC w v s) (hwf : ∀ c ∈ s, WfC c) (hl : s.length ≤ 10000000000000) :
    Calls Tryd.prog 17 #[v, .int .i64 n, .int .i64 m] w fun e w' => ∃ v', e = .returned (.tuple #[v', errV (Ed.validN s n m)]) ∧ OwnC w' w.heap.size v' (nrmA s n m) ∧ Below w.heap.size w w' := by
  by_cases hk : Ed.validN s n m = 0
  · have e : nrmA s n m = Ed.normal s n m := by unfold nrmA; rw [if_pos hk]
    rw [e, hk, errV_zero]
    exact normal_any hr hwf (Ed.validN_zero.1 hk)
  · have e : nrmA s n m = [] := by unfold nrmA; rw [if_neg hk]
    rw [e]
    have HC := hid (valid_any (n := n) (m := m) hr hwf hl)
    obtain ⟨a, c, rfl⟩ := hr.shape
    generalize Ed.validN s n m = k at HC hk
    have he : errV k = .iface 50 (.int .i64 k) := by unfold errV; rw [if_neg hk]
    rw [he] at HC ⊢
    clear hr hwf he e hk
    go_enter Tryd.func17, Tryd.ntmps17
    go_wp2_with fail
    refine HC.out.mono ?_
    rintro e w1 ⟨rfl, hb1⟩
    have HB := hid hb1
    clear hb1
    go_wp2
    go_ret2
    exact ⟨_, rfl, World.ownsRow_nil _ _ _ _, HB.out⟩
end Go.Proofs.YtjgjfnmljmmplaaDoor
