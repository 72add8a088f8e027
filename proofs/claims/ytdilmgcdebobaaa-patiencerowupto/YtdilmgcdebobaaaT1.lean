/-
  Plain: what myers' script is held against: it is a script, it fits, it costs as little as can be; the distance is a measure.
-/
import Derived.Test.YtdilmgcdebobaaaM5
import Derived.Test.YtdilmgcdebobaaaC0
namespace Go.Proofs.Ytdilmgcdebobaaa.My
open Ed (Ch Pr)

theorem myD_val {a b : List Int} (ha : a.length ≤ 4194304) (hb : b.length ≤ 4194304) : Ed.Val (myD a b) a.length b.length ∧ Ed.prs (myD a b) a.length 0 0 = myP a b := by
  rw [myD_eq]
  exact Ed.ofL_Val (Ed.cnt_iff.2 ⟨by omega, by omega⟩) (Ed.cnt_iff.2 ⟨by omega, by omega⟩) (myP_spec a b).1
theorem myD_cost {a b : List Int} (ha : a.length ≤ 4194304) (hb : b.length ≤ 4194304) : Ed.costP (myD a b) = ((a.length : Int) - lcs a b, (b.length : Int) - lcs a b) := by
  obtain ⟨h, hp⟩ := myD_val ha hb
  have h1 := h.len
  rw [hp, (myP_spec a b).2.2] at h1
  rw [h.cost]
  exact Prod.ext (by show Ed.goneS _ = _; omega) (by show Ed.comeS _ = _; omega)
theorem myD_apart (a b : List Int) : Ed.apart (myD a b) := by rw [myD_eq]; exact Ed.ofL_apart (myP_spec a b).1
theorem myD_fits {a b : List Int} (ha : a.length ≤ 4194304) (hb : b.length ≤ 4194304) : Ed.fitsP a b (Ed.prs (myD a b) a.length 0 0) = true := by
  rw [(myD_val ha hb).2]; exact (myP_spec a b).2.1
theorem myD_apply {a b : List Int} (ha : a.length ≤ 4194304) (hb : b.length ≤ 4194304) : Ed.apP (Ed.runs (myD a b) a.length 0 0) a b = b := Ed.apply_fit (myD_val ha hb).1 (myD_fits ha hb)
theorem val_in : ∀ {s : List Ch} {a b n m : Int}, Ed.val s a b n m = true → 0 ≤ a → 0 ≤ b → ∀ c ∈ s, 0 ≤ c.a ∧ 0 ≤ c.n ∧ c.a + c.n ≤ n ∧ 0 ≤ c.b ∧ 0 ≤ c.m ∧ c.b + c.m ≤ m
  | [], _, _, _, _, _, _, _ => fun _ hc => by cases hc
  | d :: r, a, b, n, m, h, ha, hb => fun c hc => by
    obtain ⟨⟨⟨p1, p2, p3⟩, ⟨p4, p5, p6⟩, _, _⟩, h2⟩ := Ed.val_cons.1 h
    rcases List.mem_cons.1 hc with rfl | hc
    · omega
    · exact val_in h2 (by omega) (by omega) c hc
theorem myD_wf {a b : List Int} (ha : a.length ≤ 4194304) (hb : b.length ≤ 4194304) : ∀ c ∈ myD a b, WfC c := fun c hc => by
  have h := val_in (myD_val ha hb).1.2.2 (Int.le_refl _) (Int.le_refl _) c hc
  unfold WfC I64
  omega
theorem lcs_all {a b : List Int} (h1 : lcs a b = a.length) (h2 : lcs a b = b.length) : a = b := by
  obtain ⟨l, s1, s2, e⟩ := lcs_some a b
  exact (s1.eq_of_length (by omega)).symm.trans (s2.eq_of_length (by omega))
/-- how far apart two rows are -/
def dst (a b : List Int) : Nat := a.length + b.length - 2 * lcs a b
theorem dst_eq (a b : List Int) : dst a b + 2 * lcs a b = a.length + b.length := by
  have := lcs_le a b
  unfold dst; omega
theorem dst_comm (a b : List Int) : dst a b = dst b a := by
  unfold dst; rw [lcs_comm, Nat.add_comm]
theorem dst_zero (a b : List Int) : dst a b = 0 ↔ a = b := by
  have h := lcs_le a b
  have e := dst_eq a b
  constructor
  · intro hz
    exact lcs_all (by omega) (by omega)
  · rintro rfl
    have := lcs_self a
    omega
theorem dst_way (a b c : List Int) : dst a b ≤ dst a c + dst c b := by
  have h := lcs_way a b c
  have e1 := dst_eq a b
  have e2 := dst_eq a c
  have e3 := dst_eq c b
  omega
end Go.Proofs.Ytdilmgcdebobaaa.My
