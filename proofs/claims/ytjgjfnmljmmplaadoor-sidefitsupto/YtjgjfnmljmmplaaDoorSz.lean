/-
  Both columns, plain: how many rows, and how wide they are (SI4).
-/
import Derived.Test.YtjgjfnmljmmplaaDoorSw
namespace Go.Proofs.YtjgjfnmljmmplaaDoor
namespace Sd
/-- k lines, each with its end, none wider than W -/
def Rw (W k : Nat) (l : Bs) : Prop := (Pl.cut l).length = k ∧ (∀ r ∈ Pl.cut l, ∃ p, r = p ++ [10] ∧ p.length ≤ W) ∧ (∀ t, Pl.cut (l ++ t) = Pl.cut l ++ Pl.cut t) ∧ l.length ≤ k * (W + 1)
theorem rw_nil {W : Nat} : Rw W 0 [] := ⟨rfl, (fun r h => by cases h), (fun t => rfl), Nat.zero_le _⟩
theorem rw_app {W a b : Nat} {l m : Bs} (h1 : Rw W a l) (h2 : Rw W b m) : Rw W (a + b) (l ++ m) := by
  obtain ⟨a1, a2, a3, a4⟩ := h1
  obtain ⟨b1, b2, b3, b4⟩ := h2
  refine ⟨by rw [a3, List.length_append, a1, b1], fun r h => ?_, fun t => by rw [List.append_assoc, a3, b3, a3, List.append_assoc], ?_⟩
  · rw [a3] at h
    rcases List.mem_append.1 h with h | h
    · exact a2 r h
    · exact b2 r h
  · rw [List.length_append, Nat.add_mul]; omega
theorem rw_row {W : Nat} {p : Bs} (h : (10 : UInt8) ∉ p) (hl : p.length ≤ W) : Rw W 1 (p ++ [10]) := by
  have e : Pl.cut (p ++ [10]) = [p ++ [10]] := Pl.cut_first p [] h
  refine ⟨by rw [e]; rfl, fun r hr => ?_, fun t => ?_, by rw [List.length_append, List.length_singleton]; omega⟩
  · rw [e] at hr
    exact ⟨p, List.mem_singleton.1 hr, hl⟩
  · rw [e, List.append_assoc]
    exact Pl.cut_first p t h
theorem blk_no (n : Nat) : (10 : UInt8) ∉ blk n := fun h => by have := (List.mem_replicate.1 h).2; exact absurd this (by decide)
theorem rowG_rw {half : Nat} {l : Bs} {mk : UInt8} {r : Bs} (hl : l.length ≤ half) (hr : r.length ≤ half) (h1 : (10 : UInt8) ∉ l) (h2 : mk ≠ 10) (h3 : (10 : UInt8) ∉ r) : Rw (2 * half + 3) 1 (rowG half l mk r) := by
  have hlen := row_len (mk := mk) hl hr
  have e : rowG half l mk r = (l ++ ((if mk ≠ 32 ∨ r ≠ [] then blk (half + 1 - l.length) ++ [mk] else []) ++ (if r ≠ [] then 32 :: r else []))) ++ [10] := by
    unfold rowG
    simp only [List.append_assoc]
  rw [e] at hlen ⊢
  rw [List.length_append, List.length_singleton] at hlen
  refine rw_row ?_ (by omega)
  intro h
  rcases List.mem_append.1 h with h | h
  · exact h1 h
  · rcases List.mem_append.1 h with h | h
    · split at h
      · rcases List.mem_append.1 h with h | h
        · exact blk_no _ h
        · exact h2 (List.mem_singleton.1 h).symm
      · cases h
    · split at h
      · rcases List.mem_cons.1 h with h | h
        · exact absurd h (by decide)
        · exact h3 h
      · cases h
def nb (L : List Bs) : Prop := ∀ a ∈ L, (10 : UInt8) ∉ bare a
theorem cut_no {fr : Nat} {wd : Int} {l : Bs} (h : (10 : UInt8) ∉ l) : (10 : UInt8) ∉ cutT fr wd [] l := fun h9 => by
  rcases cut_mem fr wd l [] 10 h9 with h9 | h9 | h9
  · cases h9
  · exact h h9
  · exact absurd h9 (by decide)
theorem rowT_rw (half sec : Nat) {a b : Bs} {mk : UInt8} (h1 : (10 : UInt8) ∉ bare a) (h2 : mk ≠ 10) (h3 : (10 : UInt8) ∉ bare b) : Rw (2 * half + 3) 1 (rowT half sec a mk b) :=
  rowG_rw (cut_half ..) (cut_half ..) (cut_no h1) h2 (cut_no h3)
theorem mkT_no (a b : Bs) : mkT a b ≠ 10 := by
  unfold mkT
  split
  · decide
  · split
    · decide
    · split <;> decide
theorem bare_nil : (10 : UInt8) ∉ bare [] := by decide
theorem bes_rw (half sec : Nat) : ∀ L M : List Bs, nb L → nb M → L.length = M.length → Rw (2 * half + 3) L.length (bes half sec L M)
  | [], [], _, _, _ => rw_nil
  | a :: L, b :: M, h1, h2, h => by
    have := rw_app (rowT_rw half sec (mk := mkT a b) (h1 a (List.mem_cons_self ..)) (mkT_no a b) (h2 b (List.mem_cons_self ..))) (bes_rw half sec L M (fun x hx => h1 x (List.mem_cons_of_mem _ hx)) (fun x hx => h2 x (List.mem_cons_of_mem _ hx)) (by simpa using h))
    rw [List.length_cons, Nat.add_comm L.length 1]
    exact this
theorem olds_rw (half sec : Nat) : ∀ L : List Bs, nb L → Rw (2 * half + 3) L.length (olds half sec L)
  | [], _ => rw_nil
  | a :: L, h1 => by
    have := rw_app (rowT_rw half sec (mk := 60) (h1 a (List.mem_cons_self ..)) (by decide) bare_nil) (olds_rw half sec L (fun x hx => h1 x (List.mem_cons_of_mem _ hx)))
    rw [List.length_cons, Nat.add_comm L.length 1]
    exact this
theorem news_rw (half sec : Nat) : ∀ L : List Bs, nb L → Rw (2 * half + 3) L.length (news half sec L)
  | [], _ => rw_nil
  | a :: L, h1 => by
    have := rw_app (rowT_rw half sec (mk := 62) bare_nil (by decide) (h1 a (List.mem_cons_self ..))) (news_rw half sec L (fun x hx => h1 x (List.mem_cons_of_mem _ hx)))
    rw [List.length_cons, Nat.add_comm L.length 1]
    exact this
theorem chg_rw (half sec : Nat) : ∀ L M : List Bs, nb L → nb M → Rw (2 * half + 3) (max L.length M.length) (chg half sec L M)
  | [], M, _, h2 => by
    have e : chg half sec [] M = news half sec M := by cases M <;> rfl
    rw [e, List.length_nil, Nat.zero_max]
    exact news_rw half sec M h2
  | a :: L, [], h1, _ => by
    rw [List.length_nil, Nat.max_zero]
    exact olds_rw half sec (a :: L) h1
  | a :: L, b :: M, h1, h2 => by
    have := rw_app (rowT_rw half sec (mk := mkT a b) (h1 a (List.mem_cons_self ..)) (mkT_no a b) (h2 b (List.mem_cons_self ..))) (chg_rw half sec L M (fun x hx => h1 x (List.mem_cons_of_mem _ hx)) (fun x hx => h2 x (List.mem_cons_of_mem _ hx)))
    rw [List.length_cons, List.length_cons, show max (L.length + 1) (M.length + 1) = 1 + max L.length M.length by omega]
    exact this
end Sd
namespace Sy
open Go.RowKit
open Ed (Ch)
/-- how many rows the changes add to the old text's -/
def wants : List Ch → Nat
  | [] => 0
  | c :: r => (c.m.toNat - c.n.toNat) + wants r
theorem wants_app : ∀ a b : List Ch, wants (a ++ b) = wants a + wants b := fun a b => by
  induction a with
  | nil => simp [wants]
  | cons x r ih => simp only [List.cons_append, wants, ih]; omega
theorem wants_take_le (S : List Ch) (k : Nat) : wants (S.take k) ≤ wants S := by
  have e : wants S = wants (S.take k) + wants (S.drop k) := by rw [← wants_app, List.take_append_drop]
  omega
theorem wants_take {S : List Ch} {k : Nat} {c : Ch} (h : S[k]? = some c) : wants (S.take (k + 1)) = wants (S.take k) + (c.m.toNat - c.n.toNat) := by
  have e : S.take (k + 1) = S.take k ++ [c] := by rw [List.take_add_one, h]; rfl
  have app : ∀ a b : List Ch, wants (a ++ b) = wants a + wants b := fun a b => by
    induction a with
    | nil => simp [wants]
    | cons x r ih => simp only [List.cons_append, wants, ih]; omega
  rw [e, app]
  rfl
theorem wants_le : ∀ {S : List Ch} {i k n m : Int}, Ed.val S i k n m = true → (wants S : Int) ≤ m - k ∨ (S = [] ∧ wants S = 0)
  | [], i, k, n, m, h => .inr ⟨rfl, rfl⟩
  | c :: r, i, k, n, m, h => by
    obtain ⟨⟨⟨o1, o2, o3⟩, ⟨o4, o5, o6⟩, _, o7⟩, hv⟩ := Ed.val_cons.1 h
    have e : wants (c :: r) = (c.m.toNat - c.n.toNat) + wants r := rfl
    rcases wants_le hv with h1 | ⟨h1, h2⟩
    · left; omega
    · left; omega
theorem val_mem : ∀ {S : List Ch} {i k n m : Int} {c : Ch}, 0 ≤ i → 0 ≤ k → Ed.val S i k n m = true → c ∈ S → 0 ≤ c.n ∧ c.n ≤ n ∧ 0 ≤ c.m ∧ c.m ≤ m
  | x :: r, i, k, n, m, c, hi, hk, h, hc => by
    obtain ⟨⟨⟨o1, o2, o3⟩, ⟨o4, o5, o6⟩, _, o7⟩, hv⟩ := Ed.val_cons.1 h
    rcases List.mem_cons.1 hc with rfl | hc
    · omega
    · exact val_mem (by omega) (by omega) hv hc
theorem nb_part {L : List ByteArray} (h : Sd.nb (L.map dat)) (x y : Nat) : Sd.nb ((part L x y).map dat) := fun a ha => by
  obtain ⟨b, hb, rfl⟩ := List.mem_map.1 ha
  exact h _ (List.mem_map_of_mem (List.mem_of_mem_drop (List.mem_of_mem_take hb)))
theorem nb_drop {L : List ByteArray} (h : Sd.nb (L.map dat)) (x : Nat) : Sd.nb ((L.drop x).map dat) := fun a ha => by
  obtain ⟨b, hb, rfl⟩ := List.mem_map.1 ha
  exact h _ (List.mem_map_of_mem (List.mem_of_mem_drop hb))
theorem prT_rw {half sec : Nat} {A M : List ByteArray} (hA : Sd.nb (A.map dat)) (hM : Sd.nb (M.map dat)) : ∀ (S : List Ch) (i k : Nat), i ≤ A.length → k ≤ M.length → Ed.val S i k A.length M.length = true → Sd.Rw (2 * half + 3) (A.length - i + wants S) (prT half sec A M S i k)
  | [], i, k, hi, hk, h => by
    have hv : (A.length : Int) - i = M.length - k := by simpa [Ed.val] using h
    have := Sd.bes_rw half sec ((A.drop i).map dat) ((M.drop k).map dat) (nb_drop hA i) (nb_drop hM k) (by rw [List.length_map, List.length_map, List.length_drop, List.length_drop]; omega)
    rw [List.length_map, List.length_drop] at this
    exact this
  | c :: r, i, k, hi, hk, h => by
    obtain ⟨⟨⟨o1, o2, o3⟩, ⟨o4, o5, o6⟩, _, o7⟩, hv⟩ := Ed.val_cons.1 h
    have l1 : ((part A i c.a.toNat).map dat).length = c.a.toNat - i := by rw [List.length_map, part_len (by omega)]
    have l2 : ((part M k c.b.toNat).map dat).length = c.b.toNat - k := by rw [List.length_map, part_len (by omega)]
    have l3 : ((part A c.a.toNat (c.a + c.n).toNat).map dat).length = c.n.toNat := by rw [List.length_map, part_len (by omega)]; omega
    have l4 : ((part M c.b.toNat (c.b + c.m).toNat).map dat).length = c.m.toNat := by rw [List.length_map, part_len (by omega)]; omega
    have r1 := Sd.bes_rw half sec _ _ (nb_part hA i c.a.toNat) (nb_part hM k c.b.toNat) (by rw [l1, l2]; omega)
    have r2 := Sd.chg_rw half sec _ _ (nb_part hA c.a.toNat (c.a + c.n).toNat) (nb_part hM c.b.toNat (c.b + c.m).toNat)
    have r3 := prT_rw (half := half) (sec := sec) hA hM r (c.a + c.n).toNat (c.b + c.m).toNat (by omega) (by omega) (by rw [show (((c.a + c.n).toNat : Nat) : Int) = c.a + c.n by omega, show (((c.b + c.m).toNat : Nat) : Int) = c.b + c.m by omega]; exact hv)
    rw [l1] at r1
    rw [l3, l4] at r2
    have := Sd.rw_app r1 (Sd.rw_app r2 r3)
    have e : A.length - i + wants (c :: r) = (c.a.toNat - i) + (max c.n.toNat c.m.toNat + (A.length - (c.a + c.n).toNat + wants r)) := by
      show A.length - i + ((c.m.toNat - c.n.toNat) + wants r) = _
      omega
    rw [e]
    exact this
theorem ok1_bare {l : Sd.Bs} (h : Pl.ok1 l = true) : (10 : UInt8) ∉ Sd.bare l := by
  unfold Pl.ok1 at h
  simp only [Bool.and_eq_true, decide_eq_true_eq] at h
  rcases Pl.parts l 10 with h1 | ⟨p, q, rfl, h1⟩
  · intro h9
    unfold Sd.bare at h9
    split at h9
    · exact h1 (List.dropLast_subset _ h9)
    · exact h1 h9
  · have h2 := h.2
    rw [Pl.fl_hit p q h1, List.length_append, List.length_cons] at h2
    have hq : q = [] := List.eq_nil_of_length_eq_zero (by omega)
    subst hq
    rw [Sd.bare_app]
    exact h1
theorem valid_ok1 : ∀ {L : List Sd.Bs}, Pl.valid L = true → ∀ x ∈ L, Pl.ok1 x = true
  | [x], h, y, hy => by rw [List.mem_singleton.1 hy]; exact h
  | x :: z :: r, h, y, hy => by
    unfold Pl.valid at h
    simp only [Bool.and_eq_true] at h
    rcases List.mem_cons.1 hy with rfl | hy
    · exact h.1.1
    · exact valid_ok1 h.2 y hy
theorem valid_nb {A : List ByteArray} (h : Pl.valid (Cx.DL A) = true) : Sd.nb (A.map dat) := fun a ha => by
  have : a ∈ Cx.DL A := ha
  exact ok1_bare (valid_ok1 h a this)
end Sy
end Go.Proofs.YtjgjfnmljmmplaaDoor
