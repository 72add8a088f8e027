/-
  Unified diffs, plain: what stands behind a diff and begins no hunk changes nothing of it.
-/
import Derived.Test.YtkolgglllladfaaGreatDoorFp
namespace Go.Proofs.YtkolgglllladfaaGreatDoor.Un
open Hu (Rw Hk)

/-- a text that ends as it must -/
def Wh (s : Bs) : Prop := s = [] ∨ Pl.wh s = true
theorem wh_parts {s : Bs} (h : Pl.wh s = true) : ∃ p q, s = p ++ 10 :: q ∧ (10 : UInt8) ∉ p ∧ Wh q := by
  rcases Pl.parts s 10 with hm | ⟨p, q, rfl, hp⟩
  · exfalso
    unfold Pl.wh at h
    rw [beq_iff_eq] at h
    exact hm (List.mem_of_getLast? h)
  · refine ⟨p, q, rfl, hp, ?_⟩
    by_cases hq : q = []
    · exact .inl hq
    · refine .inr ?_
      rw [Pl.wh_append _ _ (by simp), Pl.wh_cons _ _ hq] at h
      exact h
theorem nx_on {s z : Bs} (h : Wh s) (hne : s ≠ []) : nx (s ++ z) = nx s ∧ adv (s ++ z) = adv s ++ z ∧ Wh (adv s) := by
  rcases h with h | h
  · exact absurd h hne
  · obtain ⟨p, q, rfl, hp, hq⟩ := wh_parts h
    rw [show p ++ 10 :: q ++ z = p ++ 10 :: (q ++ z) by simp, nx_app hp, nx_app hp, adv_app hp, adv_app hp]
    exact ⟨rfl, rfl, hq⟩
theorem lns_on : ∀ (n : Nat) (s z : Bs), s.length ≤ n → Wh s → lns (s ++ z) = lns s ++ lns z
  | 0, s, z, hn, _ => by
    have : s = [] := List.length_eq_zero_iff.1 (by omega)
    subst this; rfl
  | n + 1, s, z, hn, h => by
    by_cases e : s = []
    · subst e; rfl
    · obtain ⟨h1, h2, h3⟩ := nx_on (z := z) h e
      have h4 := adv_lt e
      have e2 : s ++ z ≠ [] := by simp [e]
      have l1 : lns (s ++ z) = nx (s ++ z) :: lns (adv (s ++ z)) := lns_cons e2
      have l2 : lns s = nx s :: lns (adv s) := lns_cons e
      rw [l1, l2, h1, h2, lns_on n (adv s) z (by omega) h3]
      rfl
theorem advN_on : ∀ (k : Nat) (s z : Bs), Wh s → k ≤ (lns s).length → advN k (s ++ z) = advN k s ++ z
  | 0, _, _, _, _ => rfl
  | k + 1, s, z, h, hk => by
    by_cases e : s = []
    · subst e; simp [lns_nil] at hk
    · obtain ⟨_, h2, h3⟩ := nx_on (z := z) h e
      have l2 : lns s = nx s :: lns (adv s) := lns_cons e
      rw [l2, List.length_cons] at hk
      show advN k (adv (s ++ z)) = advN k (adv s) ++ z
      rw [h2]
      exact advN_on k (adv s) z h3 (by omega)
/-- no line that takes an end -/
def NoEnd (lz : List Bs) : Prop := ∀ y, lz.head? = some y → isEnd y = false
theorem rows_zero {lz : List Bs} (h : NoEnd lz) (c : Nat) : rowsP lz 0 0 c = .ok [] lz c := by
  rcases lz with _ | ⟨y, _ | ⟨y2, lz⟩⟩
  · rfl
  · have := h y rfl
    rw [rowsP]; simp [this]
  · have := h y rfl
    rw [rowsP]; simp [this]
theorem rows_on : ∀ (n : Nat) (ls lz : List Bs) (x y c : Nat) (rows : List (Int × Bs)) (ls' : List Bs) (c' : Nat), ls.length ≤ n → NoEnd lz → rowsP ls x y c = .ok rows ls' c' → rowsP (ls ++ lz) x y c = .ok rows (ls' ++ lz) c'
  | _, [], lz, x, y, c, rows, ls', c', _, hz, h => by
    rw [rowsP] at h
    split at h
    · rename_i h0
      cases h
      rw [h0.1, h0.2]
      exact rows_zero hz c
    · cases h
  | n, [q], lz, x, y, c, rows, ls', c', _, hz, h => by
    rw [rowsP] at h
    split at h
    · rename_i h0
      split at h
      · cases h
      · rename_i hq
        cases h
        rw [h0.1, h0.2]
        exact rows_zero (lz := [q] ++ lz) (fun y hy => by simp at hy; rw [← hy]; simpa using hq) c
    · rename_i h0
      split at h
      · cases h
      · rename_i k j hm
        split at h
        · cases h
        · rename_i n' m' hl
          split at h
          · rename_i h1
            cases h
            obtain ⟨rfl, rfl⟩ := h1
            cases lz with
            | nil => show rowsP [q] x y c = _; rw [rowsP, if_neg h0, hm]; simp only; rw [hl]; simp
            | cons y2 lz =>
              have hy := hz y2 rfl
              show rowsP (q :: y2 :: lz) x y c = _
              rw [rowsP, if_neg h0, hm]
              simp only
              rw [hl]
              simp only
              rw [hy]
              simp only [Bool.false_eq_true, if_false]
              rw [rows_zero hz]
              rfl
          · cases h
  | 0, _ :: _ :: _, _, _, _, _, _, _, _, hn, _, _ => by simp at hn
  | n + 1, q :: q2 :: ls, lz, x, y, c, rows, ls', c', hn, hz, h => by
    rw [rowsP] at h
    show rowsP (q :: q2 :: (ls ++ lz)) x y c = _
    rw [rowsP]
    split at h
    · rename_i h0
      rw [if_pos h0]
      split at h
      · cases h
      · rename_i hq
        cases h
        rw [if_neg hq]
        rfl
    · rename_i h0
      rw [if_neg h0]
      split at h
      · cases h
      · rename_i k j hm
        split at h
        · cases h
        · rename_i n' m' hl
          split at h
          · rename_i he
            rw [if_pos he]
            cases hr : rowsP ls n' m' (c + 2) with
            | bad w => rw [hr] at h; cases h
            | ok r2 l2 c2 =>
              rw [hr] at h
              cases h
              rw [rows_on n ls lz n' m' (c + 2) r2 ls' c' (by simp at hn; omega) hz hr]
              rfl
          · rename_i he
            rw [if_neg he]
            cases hr : rowsP (q2 :: ls) n' m' (c + 1) with
            | bad w => rw [hr] at h; cases h
            | ok r2 l2 c2 =>
              rw [hr] at h
              cases h
              have := rows_on n (q2 :: ls) lz n' m' (c + 1) r2 ls' c' (by simp at hn ⊢; omega) hz hr
              rw [List.cons_append] at this
              rw [this]
              rfl
theorem rows_count : ∀ (n : Nat) (ls : List Bs) (x y c : Nat) (rows : List (Int × Bs)) (ls' : List Bs) (c' : Nat), ls.length ≤ n → rowsP ls x y c = .ok rows ls' c' → c' - c ≤ ls.length
  | _, [], x, y, c, rows, ls', c', _, h => by
    rw [rowsP] at h
    split at h
    · cases h; simp
    · cases h
  | n, [z], x, y, c, rows, ls', c', _, h => by
    rw [rowsP] at h
    split at h
    · split at h
      · cases h
      · cases h; simp
    · split at h
      · cases h
      · split at h
        · cases h
        · split at h
          · cases h; simp
          · cases h
  | 0, _ :: _ :: _, _, _, _, _, _, _, hn, _ => by simp at hn
  | n + 1, z :: z2 :: ls, x, y, c, rows, ls', c', hn, h => by
    rw [rowsP] at h
    split at h
    · split at h
      · cases h
      · cases h; simp
    · split at h
      · cases h
      · rename_i k j _
        split at h
        · cases h
        · rename_i n' m' _
          split at h
          · cases hr : rowsP ls n' m' (c + 2) with
            | bad q => rw [hr] at h; cases h
            | ok r2 l2 c2 =>
              rw [hr] at h
              cases h
              have := rows_count n ls n' m' (c + 2) r2 ls' c' (by simp at hn; omega) hr
              simp
              omega
          · cases hr : rowsP (z2 :: ls) n' m' (c + 1) with
            | bad q => rw [hr] at h; cases h
            | ok r2 l2 c2 =>
              rw [hr] at h
              cases h
              have := rows_count n (z2 :: ls) n' m' (c + 1) r2 ls' c' (by simp at hn ⊢; omega) hr
              simp at this ⊢
              omega
theorem fin_ok {c c' : Nat} {acc hs : List Hk} (h : Pr.fin c acc = .ok hs c') : acc = hs ∧ c = c' := by
  unfold Pr.fin at h
  split at h
  · cases h
  · cases h; exact ⟨rfl, rfl⟩
/-- where hunks end -/
theorem hunks_end : ∀ (f : Nat) (ls : List Bs) (c : Nat) (acc hs : List Hk) (c' : Nat), hunksF f ls c acc = .ok hs c' → c ≤ c'
  | 0, _, _, _, _, _, h => by cases h
  | f + 1, [], c, acc, hs, c', h => by
    have := fin_ok (show Pr.fin c acc = _ from h)
    omega
  | f + 1, x :: ls, c, acc, hs, c', h => by
    rw [hunksF] at h
    split at h
    · split at h
      · cases h
      · split at h
        · cases h
        · rename_i rows ls' c1 hr
          split at h
          · split at h
            · have h1 := hunks_end f ls' c1 _ hs c' h
              have h2 := (rowsP_drop _ _ _ _ _ _ _ _ (Nat.le_refl _) hr).1
              omega
            · cases h
          · cases h
    · have := fin_ok h
      omega
theorem hunks_on : ∀ (f : Nat) (ls lz : List Bs) (c : Nat) (acc hs : List Hk) (c' g : Nat), hunksF f ls c acc = .ok hs c' → c' - c = ls.length → NoEnd lz → (∀ y, lz.head? = some y → begs y = false) → f ≤ g → hunksF g (ls ++ lz) c acc = .ok hs c'
  | 0, _, _, _, _, _, _, _, h, _, _, _, _ => by cases h
  | f + 1, [], lz, c, acc, hs, c', g, h, _, _, hb, hg => by
    obtain ⟨g', rfl⟩ : ∃ g', g = g' + 1 := ⟨g - 1, by omega⟩
    have h0 : Pr.fin c acc = .ok hs c' := h
    cases lz with
    | nil => exact h0
    | cons y lz =>
      show hunksF (g' + 1) (y :: lz) c acc = _
      rw [hunksF, hb y rfl]
      exact h0
  | f + 1, x :: ls, lz, c, acc, hs, c', g, h, hl, hz, hb, hg => by
    obtain ⟨g', rfl⟩ : ∃ g', g = g' + 1 := ⟨g - 1, by omega⟩
    rw [hunksF] at h
    show hunksF (g' + 1) (x :: (ls ++ lz)) c acc = _
    rw [hunksF]
    split at h
    · rename_i hbx
      rw [if_pos hbx]
      split at h
      · cases h
      · rename_i p hp
        split at h
        · cases h
        · rename_i rows ls' c1 hr
          rw [rows_on _ ls lz _ _ _ _ _ _ (Nat.le_refl _) hz hr]
          simp only
          have hd := rowsP_drop _ _ _ _ _ _ _ _ (Nat.le_refl _) hr
          split at h
          · rename_i hv
            rw [if_pos hv]
            split at h
            · rename_i ho
              rw [if_pos ho]
              have he := hunks_end _ _ _ _ _ _ h
              refine hunks_on f ls' lz c1 _ hs c' g' h ?_ hz hb (by omega)
              rw [hd.2, List.length_drop]
              simp at hl
              omega
            · cases h
          · cases h
    · exfalso
      have := fin_ok h
      simp at hl
      omega
theorem wh_adv {s : Bs} (h : Wh s) : Wh (adv s) := by
  by_cases e : s = []
  · subst e; rw [adv_nil]; exact h
  · exact (nx_on (z := []) h e).2.2
theorem hdr_ne {mark s : Bs} {o : Bs × Bs} (hm : mark ≠ []) (h : hdrP mark (nx s) = some o) : s ≠ [] := by
  rintro rfl
  unfold hdrP at h
  have : pre mark (nx []) = none := by
    unfold pre
    rw [if_neg]
    cases mark with
    | nil => exact absurd rfl hm
    | cons c m => simp [nx_nil]
  rw [this] at h
  cases h
/-- what stands behind a diff changes nothing of it -/
theorem parse_on {s z : Bs} {o q : Bs × Bs} {hs : List Hk} (h : parse s = .ok o q hs []) (hw : Pl.wh s = true) (h1 : isEnd (nx z) = false) (h2 : begs (nx z) = false) (hl : s.length + z.length ≤ 4194304) : parse (s ++ z) = .ok o q hs z := by
  unfold parse at h
  rw [if_neg (by omega)] at h
  split at h
  · cases h
  · rename_i o' ho
    split at h
    · cases h
    · rename_i q' hq
      split at h
      · cases h
      · rename_i hs' c' hh
        simp only [Ps.ok.injEq] at h
        obtain ⟨rfl, rfl, rfl, hrest⟩ := h
        have e1 := hdr_ne (by decide) ho
        have W0 : Wh s := .inr hw
        obtain ⟨a1, a2, W1⟩ := nx_on (z := z) W0 e1
        have e2 := hdr_ne (by decide) hq
        obtain ⟨b1, b2, W2⟩ := nx_on (z := z) W1 e2
        have n1 : lns s = nx s :: lns (adv s) := lns_cons e1
        have n2 : lns (adv s) = nx (adv s) :: lns (adv (adv s)) := lns_cons e2
        have hend := hunks_end _ _ _ _ _ _ hh
        have hc : c' - 3 = (lns (adv (adv s))).length := by
          have hr2 : lns (advN (c' - 1) s) = [] := by rw [hrest]; rfl
          rw [lns_advN, List.drop_eq_nil_iff] at hr2
          rw [n1, n2] at hr2
          simp at hr2
          have hub : c' - 3 ≤ (lns (adv (adv s))).length := by
            have key : ∀ (f : Nat) (ls : List Bs) (c : Nat) (acc hs : List Hk) (c' : Nat), hunksF f ls c acc = .ok hs c' → c' - c ≤ ls.length := by
              intro f
              induction f with
              | zero => intro ls c acc hs c' h; cases h
              | succ f ih =>
                intro ls c acc hs c' h
                cases ls with
                | nil =>
                  have := fin_ok (show Pr.fin c acc = _ from h)
                  omega
                | cons x ls =>
                  rw [hunksF] at h
                  split at h
                  · split at h
                    · cases h
                    · split at h
                      · cases h
                      · rename_i rows ls' c1 hr
                        have hd := rowsP_drop _ _ _ _ _ _ _ _ (Nat.le_refl _) hr
                        split at h
                        · split at h
                          · have := ih ls' c1 _ hs c' h
                            rw [hd.2, List.length_drop] at this
                            have hx := hunks_end _ _ _ _ _ _ h
                            have hc1 : c1 - (c + 1) ≤ ls.length ∨ ls.length < c1 - (c + 1) := by omega
                            rcases hc1 with hc1 | hc1
                            · simp; omega
                            · exfalso
                              have := rows_count _ ls _ _ _ _ _ _ (Nat.le_refl _) hr
                              omega
                          · cases h
                        · cases h
                  · have := fin_ok h
                    omega
            exact key _ _ _ _ _ _ hh
          omega
        unfold parse
        rw [List.length_append, if_neg (by omega), a1, ho]
        simp only
        rw [a2, b1, hq]
        simp only
        have e3 : advN 2 (s ++ z) = adv (adv s) ++ z := by show adv (adv (s ++ z)) = _; rw [a2, b2]
        have hNE : NoEnd (lns z) := fun y hy => by rw [nx_head, List.headD_eq_head?_getD, hy] at h1; exact h1
        have hNB : ∀ y, (lns z).head? = some y → begs y = false := fun y hy => by rw [nx_head, List.headD_eq_head?_getD, hy] at h2; exact h2
        have e4 : hunksF (s.length + z.length + 1) (lns (advN 2 (s ++ z))) 3 [] = .ok hs' c' := by
          rw [e3, lns_on _ _ _ (Nat.le_refl _) W2]
          exact hunks_on _ _ _ _ _ _ _ _ hh hc hNE hNB (by omega)
        rw [e4]
        simp only
        rw [advN_on _ _ _ W0 (by rw [n1, n2]; simp; omega), hrest]
        simp
end Go.Proofs.YtkolgglllladfaaGreatDoor.Un
