/-
  The walks of crossing, roomOf and middle.
-/
import Derived.Test.YtdilmgcdebobaaaK5
namespace Go.Proofs.Ytdilmgcdebobaaa
open Go.RowKit
open Ed (Ch Run Pr)
open My (Ats En)

section
variable {a b : List Int}
theorem st_of {p p1 p2 k : Int} {t : Ats} (h1 : My.Ent a b p1 (k - 1) (t (k - 1))) (h2 : My.Ent a b p2 (k + 1) (t (k + 1))) (hG : My.Good a b p k (candY t k)) : StOk a b t k := by
  have key : ∀ {q j : Int} {e : En}, My.Ent a b q j e → -1 ≤ e.1 ∧ e.1 ≤ b.length := fun {q j e} h => by
    rcases h with ⟨rfl, _⟩ | ⟨g, _, _⟩
    · simp
    · have := g.1; have := g.2.2.2.1; omega
  obtain ⟨g1, g2, g3, g4, _, _⟩ := hG
  exact ⟨g1, g4, g2, g3, (key h1).1, (key h1).2, (key h2).1, (key h2).2⟩
theorem fineU {p : Int} (hN : My.Not a b p) (hp : 0 ≤ p) (hpa : p ≤ a.length) (hpb : p ≤ b.length) : ∀ (n : Nat) (t : Ats) (k : Int), My.lowP a b p ≤ k → k + n = b.length + 1 →
    (∀ j, My.lowP a b p - 1 ≤ j → j < k → My.Ent a b p j (t j)) → (∀ j, k ≤ j → j ≤ My.highP a b p + 1 → My.Ent a b (p - 1) j (t j)) → FineG a b 1 n t k
  | 0, t, k, h1, h2, h3, h4 => trivial
  | n + 1, t, k, h1, h2, h3, h4 => by
    obtain ⟨g1, g2⟩ := My.low_goal (a := a) (b := b) hp
    have hne := My.good_some (a := a) (b := b) (p := p) (k := k) (by unfold My.lowP at h1; exact h1) (by unfold My.highP at g2; omega) hp hpa hpb
    have q1 := h3 (k - 1) (by omega) (by omega)
    have q2 := h4 (k + 1) (by omega) (by omega)
    have hok : My.Ok a b p k (My.stepE a b k (t (k - 1)) (t (k + 1))) := My.left_ent (by omega) q1 q2 hN hne
    refine ⟨st_of q1 q2 (My.left_top (b.length + 1) (by omega) q1.top q2.top hN hne (Nat.lt_succ_self _)).1, ?_⟩
    refine fineU hN hp hpa hpb n _ (k + 1) (by omega) (by omega) (fun j r1 r2 => ?_) (fun j r1 r2 => ?_)
    · by_cases e : j = k
      · rw [e, My.put_same]; exact .inr hok
      · rw [My.put_other _ _ e]; exact h3 j r1 (by omega)
    · rw [My.put_other _ _ (by omega)]; exact h4 j (by omega) r2
theorem fineD {p : Int} (hN : My.Not a b p) (hp : 0 ≤ p) (hpa : p ≤ a.length) (hpb : p ≤ b.length) : ∀ (n : Nat) (t : Ats) (k : Int), k ≤ My.highP a b p → k - n = b.length + 1 →
    (∀ j, (b.length : Int) + 1 ≤ j → j ≤ k → My.Ent a b (p - 1) j (t j)) → (∀ j, k < j → j ≤ My.highP a b p + 1 → My.Ent a b p j (t j)) → FineG a b (-1) n t k
  | 0, t, k, h1, h2, h4, h5 => trivial
  | n + 1, t, k, h1, h2, h4, h5 => by
    obtain ⟨g1, g2⟩ := My.low_goal (a := a) (b := b) hp
    have hne := My.good_some (a := a) (b := b) (p := p) (k := k) (by unfold My.lowP at g1; omega) (by unfold My.highP at h1; exact h1) hp hpa hpb
    have q1 := h4 (k - 1) (by omega) (by omega)
    have q2 := h5 (k + 1) (by omega) (by omega)
    have hok : My.Ok a b p k (My.stepE a b k (t (k - 1)) (t (k + 1))) := My.right_ent (by omega) q1 q2 hN hne
    refine ⟨st_of q1 q2 (My.right_top (b.length + 1) (by omega) q1.top q2.top hN hne (Nat.lt_succ_self _)).1, ?_⟩
    refine fineD hN hp hpa hpb n _ (k + -1) (by omega) (by omega) (fun j r1 r2 => ?_) (fun j r1 r2 => ?_)
    · rw [My.put_other _ _ (by omega)]; exact h4 j r1 (by omega)
    · by_cases e : j = k
      · rw [e, My.put_same]; exact .inr hok
      · rw [My.put_other _ _ e]; exact h5 j (by omega) r2
/-- all that the three sweeps of a round must find -/
theorem fine_rnd {p : Int} {t : Ats} (hN : My.Not a b p) (hp : 0 ≤ p) (hpa : p ≤ a.length) (hpb : p ≤ b.length) (h : ∀ j, My.lowP a b p - 1 ≤ j → j ≤ My.highP a b p + 1 → My.Ent a b (p - 1) j (t j)) (hl : My.Ent a b p (My.lowP a b p - 1) (t (My.lowP a b p - 1))) (hh : My.Ent a b p (My.highP a b p + 1) (t (My.highP a b p + 1))) :
    FineG a b 1 ((b.length : Int) + 1 - My.lowP a b p).toNat t (My.lowP a b p) ∧ FineG a b (-1) (My.highP a b p - (b.length + 1)).toNat (My.swU a b ((b.length : Int) + 1 - My.lowP a b p).toNat t (My.lowP a b p)) (My.highP a b p) ∧
    FineG a b 1 1 (My.swD a b (My.highP a b p - (b.length + 1)).toNat (My.swU a b ((b.length : Int) + 1 - My.lowP a b p).toNat t (My.lowP a b p)) (My.highP a b p)) (b.length + 1) := by
  obtain ⟨g1, g2⟩ := My.low_goal (a := a) (b := b) hp
  have a1 : ∀ j, My.lowP a b p - 1 ≤ j → j < My.lowP a b p → My.Ent a b p j (t j) := fun j q1 q2 => by rw [show j = My.lowP a b p - 1 by omega]; exact hl
  have a2 : ∀ j, My.lowP a b p ≤ j → j ≤ My.highP a b p + 1 → My.Ent a b (p - 1) j (t j) := fun j q1 q2 => h j (by omega) q2
  obtain ⟨h1, h2⟩ := My.swU_left hN hp hpa hpb ((b.length : Int) + 1 - My.lowP a b p).toNat t (My.lowP a b p) (Int.le_refl _) (by omega) a1 a2
  have hs : ∀ (n : Nat) (t : Ats) (k j : Int), k + n ≤ j → My.swU a b n t k j = t j := by
    intro n
    induction n with
    | zero => intro t k j _; rfl
    | succ n ih => intro t k j hj; rw [My.swU, ih _ _ _ (by omega), My.put_other _ _ (by omega)]
  have hh' := hh
  rw [← hs ((b.length : Int) + 1 - My.lowP a b p).toNat t (My.lowP a b p) (My.highP a b p + 1) (by omega)] at hh'
  refine ⟨fineU hN hp hpa hpb _ t _ (Int.le_refl _) (by omega) a1 a2, ?_⟩
  generalize My.swU a b ((b.length : Int) + 1 - My.lowP a b p).toNat t (My.lowP a b p) = t1 at *
  have b2 : ∀ j, My.highP a b p < j → j ≤ My.highP a b p + 1 → My.Ent a b p j (t1 j) := fun j q1 q2 => by rw [show j = My.highP a b p + 1 by omega]; exact hh'
  obtain ⟨h3, h4⟩ := My.swD_right hN hp hpa hpb (My.highP a b p - (b.length + 1)).toNat t1 (My.highP a b p) (Int.le_refl _) (by omega) h1 (fun j q1 q2 => h2 j q1 (by omega)) b2
  refine ⟨fineD hN hp hpa hpb _ t1 _ (Int.le_refl _) (by omega) (fun j q1 q2 => h2 j q1 (by omega)) b2, ?_⟩
  generalize My.swD a b (My.highP a b p - (b.length + 1)).toNat t1 (My.highP a b p) = t2 at *
  have q1 := h3 ((b.length : Int) + 1 - 1) (by omega) (by omega)
  have q2 := h4 ((b.length : Int) + 1 + 1) (by omega) (by omega)
  have hne := My.good_some (a := a) (b := b) (p := p) (k := (b.length : Int) + 1) (by unfold My.lowP at g1; exact g1) (by unfold My.highP at g2; exact g2) hp hpa hpb
  exact ⟨st_of q1 q2 (My.goal_top (b.length + 1) rfl q1.top q2.top hne (Nat.lt_succ_self _)).1, trivial⟩
end

set_option maxHeartbeats 1000000 in
theorem crossing_any {w : World} {gs : Nat} {va vb vt : Value} {a b : List Int} {ov : Int} (hS : w.heap[gs]? = some (.cells #[va, vb, .int .i64 (My.hf a b), vt] 144)) (ha : RdI w va a) (hla : a.length ≤ 2000000) (hlb : b.length ≤ 2000000) (h0 : 0 ≤ ov) (h1 : ov ≤ 10000000) (h2 : 0 ≤ My.crY a b ov) :
    Calls Try.prog 94 #[.pointer (some ⟨gs, 0, none⟩), .int .i64 ov] w fun e w' => e = .returned (.tuple #[.int .i64 (My.crX a b ov), .int .i64 (My.crY a b ov)]) ∧ w' = w := by
  obtain ⟨aa, ca, rfl⟩ := ha.shape
  have s0 : w.cell? ⟨gs, 0, none⟩ = some (.slice aa a.length ca) := cell_of_blk hS 0
  have s2 : w.cell? ⟨gs, 2, none⟩ = some (.int .i64 (My.hf a b)) := cell_of_blk hS 2
  have hh : 0 ≤ My.hf a b ∧ My.hf a b ≤ 4000000 := by unfold My.hf; omega
  have hnn : 0 ≤ My.hf a b + (ov - a.length - 1) + 1 := by unfold My.crY at h2; omega
  have HY : Hid (My.crY a b ov = (My.hf a b + (ov - a.length - 1) + 1) / 2) := hid rfl
  have HX : Hid (My.crX a b ov = My.crY a b ov - (ov - a.length - 1)) := hid rfl
  obtain ⟨hh0, hh1⟩ := hh
  generalize My.crY a b ov = cy at *
  generalize My.crX a b ov = cx at *
  generalize My.hf a b = H at *
  clear hS ha
  have i1 : IntKind.i64.wrap (ov - (a.length : Int)) = ov - (a.length : Int) := wrapOk (by omega) (by omega)
  have i2 : IntKind.i64.wrap (ov - (a.length : Int) - 1) = ov - (a.length : Int) - 1 := wrapOk (by omega) (by omega)
  have i3 : IntKind.i64.wrap (H + (ov - (a.length : Int) - 1)) = H + (ov - (a.length : Int) - 1) := wrapOk (by omega) (by omega)
  have i4 : IntKind.i64.wrap (H + (ov - (a.length : Int) - 1) + 1) = H + (ov - (a.length : Int) - 1) + 1 := wrapOk (by omega) (by omega)
  go_enter Try.func94, Try.ntmps94
  go_wp2
  go_ret2
  exact ⟨ret_two (by rw [HX.out, HY.out]; rfl) (by rw [HY.out]; rfl), rfl⟩
set_option maxHeartbeats 1000000 in
theorem roomOf_any {w : World} {v u : Value} {a b : List Int} (hv : RdI w v a) (hu : RdI w u b) (hla : a.length ≤ 2000000) (hlb : b.length ≤ 2000000) :
    Calls Try.prog 89 #[v, u] w fun e w' => e = .returned (.int .i64 ((a.length + b.length + 3 : Nat) : Int)) ∧ w' = w := by
  obtain ⟨a0, c0, rfl⟩ := hv.shape
  obtain ⟨a1, c1, rfl⟩ := hu.shape
  clear hv hu
  have i1 : IntKind.i64.wrap ((a.length : Int) + (b.length : Int)) = (a.length : Int) + (b.length : Int) := wrapOk (by omega) (by omega)
  have i2 : IntKind.i64.wrap ((a.length : Int) + (b.length : Int) + 3) = (a.length : Int) + (b.length : Int) + 3 := wrapOk (by omega) (by omega)
  go_enter Try.func89, Try.ntmps89
  go_wp2
  go_ret
  exact ⟨by push_cast; rfl, rfl⟩
end Go.Proofs.Ytdilmgcdebobaaa
