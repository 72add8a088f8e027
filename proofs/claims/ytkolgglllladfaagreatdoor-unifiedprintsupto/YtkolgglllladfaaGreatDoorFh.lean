/-
  Unified diffs, plain: a text's lines passed one by one, a header's name, hunks one behind the other, what is left: as the program reads, and as the document does.
-/
import Derived.Test.YtkolgglllladfaaGreatDoorFb
import Derived.Test.YtkolgglllladfaaGreatDoorPq
import Derived.Test.YtkolgglllladfaaGreatDoorGrPl
namespace Go.Proofs.YtkolgglllladfaaGreatDoor.Un
open Hu (Rw Hk)

/-! ### lines that are passed -/
def adv (s : Bs) : Bs := s.drop (Pl.fl s)
def advN : Nat → Bs → Bs
  | 0, s => s
  | k + 1, s => advN k (adv s)
theorem adv_nil : adv [] = [] := by unfold adv; simp
theorem advN_nil : ∀ k, advN k [] = []
  | 0 => rfl
  | k + 1 => by show advN k (adv []) = []; rw [adv_nil]; exact advN_nil k
theorem advN_succ : ∀ (k : Nat) (s : Bs), advN (k + 1) s = adv (advN k s)
  | 0, _ => rfl
  | k + 1, s => by show advN (k + 1) (adv s) = adv (advN k (adv s)); exact advN_succ k (adv s)
theorem advN_add : ∀ (j k : Nat) (s : Bs), advN (j + k) s = advN k (advN j s)
  | 0, k, s => by rw [Nat.zero_add]; rfl
  | j + 1, k, s => by rw [show j + 1 + k = (j + k) + 1 by omega]; exact advN_add j k (adv s)
theorem lns_adv (s : Bs) : lns (adv s) = (lns s).tail := by
  by_cases e : s = []
  · subst e; rw [adv_nil]; rfl
  · rw [lns_cons e]; rfl
theorem lns_advN : ∀ (k : Nat) (s : Bs), lns (advN k s) = (lns s).drop k
  | 0, _ => rfl
  | k + 1, s => by show lns (advN k (adv s)) = _; rw [lns_advN k, lns_adv, List.drop_tail]
theorem adv_len (s : Bs) : (adv s).length ≤ s.length := by unfold adv; simp
theorem adv_lt {s : Bs} (h : s ≠ []) : (adv s).length < s.length := by
  unfold adv
  have := Pl.fl_pos s h
  have := Pl.fl_le s
  simp
  omega
theorem lns_len : ∀ (n : Nat) (s : Bs), s.length ≤ n → (lns s).length ≤ s.length
  | 0, s, h => by
    have : s = [] := List.length_eq_zero_iff.1 (by omega)
    subst this; exact Nat.le_refl _
  | n + 1, s, h => by
    by_cases e : s = []
    · subst e; exact Nat.le_refl _
    · rw [lns_cons e]
      have h1 := adv_lt e
      have h2 := lns_len n (adv s) (by omega)
      show (lns (adv s)).length + 1 ≤ _
      omega
theorem nx_line {s : Bs} (h : s ≠ []) : ∃ p, nx s = p ++ [10] ∧ (10 : UInt8) ∉ p := by
  rcases Pl.parts s 10 with hm | ⟨p, q, rfl, hp⟩
  · exact ⟨s, by unfold nx; rw [if_neg (by rintro (e | e); exact hm e; exact h e)], hm⟩
  · refine ⟨p, ?_, hp⟩
    unfold nx
    rw [if_pos (.inl (by simp)), Pl.fl_hit p q hp, List.take_append, List.take_of_length_le (by omega), show p.length + 1 - p.length = 1 by omega]
    rfl
theorem nx_nil : nx [] = [] := rfl
theorem nx_size (s : Bs) : (nx s).length ≤ s.length + 1 := by
  unfold nx
  split
  · rw [List.length_take]; omega
  · simp
theorem lns_line : ∀ (n : Nat) (s : Bs), s.length ≤ n → ∀ x ∈ lns s, (∃ p, x = p ++ [10] ∧ (10 : UInt8) ∉ p) ∧ x.length ≤ s.length + 1
  | 0, s, h, x, hx => by
    have : s = [] := List.length_eq_zero_iff.1 (by omega)
    subst this; cases hx
  | n + 1, s, h, x, hx => by
    by_cases e : s = []
    · subst e; cases hx
    · rw [lns_cons e] at hx
      rcases List.mem_cons.1 hx with rfl | hx
      · exact ⟨nx_line e, nx_size s⟩
      · have h1 := adv_lt e
        have h2 := lns_line n (adv s) (by omega) x hx
        exact ⟨h2.1, by omega⟩
/-- what is left behind so many lines -/
theorem left_eq : ∀ (k : Nat) (s : Bs), advN k s = s.drop (min ((lns s).take k).flatten.length s.length)
  | 0, s => by simp [advN]
  | k + 1, s => by
    by_cases e : s = []
    · subst e; rw [advN_nil]; simp
    · show advN k (adv s) = _
      rw [left_eq k (adv s), lns_cons e, List.take_succ_cons, List.flatten_cons, List.length_append]
      have hl := nx_len s
      have hf := Pl.fl_le s
      show (s.drop (Pl.fl s)).drop _ = _
      rw [List.drop_drop]
      have ha : (adv s).length = s.length - Pl.fl s := by unfold adv; rw [List.length_drop]
      rw [ha]
      show _ = s.drop (min ((nx s).length + ((lns (adv s)).take k).flatten.length) s.length)
      by_cases h2 : (nx s).length ≤ s.length
      · congr 1; omega
      · congr 1; omega
/-! ### headers -/
theorem rb_end (c : UInt8) (t : Bs) : Pq.rb ((c :: t) ++ [10]) = Pq.rb (c :: t) := by
  have o10 : Pq.oct 10 = false := by decide
  have l10 : ¬ 0 ≤ Lib.indexByte Pq.letters 10 := by decide
  rcases t with _ | ⟨d, _ | ⟨e, _ | ⟨f, t⟩⟩⟩
  · by_cases hc : c = 92
    · subst hc; simp [Pq.rb, l10]
    · simp [Pq.rb, hc]
  · by_cases hc : c = 92
    · subst hc
      by_cases hd : 0 ≤ Lib.indexByte Pq.letters d
      · simp [Pq.rb, hd]
      · simp [Pq.rb, hd]
    · simp [Pq.rb, hc]
  · by_cases hc : c = 92
    · subst hc
      by_cases hd : 0 ≤ Lib.indexByte Pq.letters d
      · simp [Pq.rb, hd]
      · simp [Pq.rb, hd, o10]
    · simp [Pq.rb, hc]
  · by_cases hc : c = 92
    · subst hc
      by_cases hd : 0 ≤ Lib.indexByte Pq.letters d
      · simp [Pq.rb, hd]
      · simp [Pq.rb, hd]
    · simp [Pq.rb, hc]
theorem rq_end10 : ∀ (n : Nat) (l : Bs) (out : Bs), l.length ≤ n → (10 : UInt8) ∉ l → Pq.rq out (l ++ [10]) = (Pq.rq out l).map fun p => (p.1, p.2 ++ [10])
  | _, [], out, _, _ => by
    show Pq.rq out (10 :: []) = _
    rw [Pq.rq_end, Pq.rq_nil]
    rfl
  | 0, c :: t, out, h, _ => by simp at h
  | n + 1, c :: t, out, h, hm => by
    have hc : c ≠ 10 := fun e => hm (by rw [e]; exact List.mem_cons_self)
    have hr := rb_end c t
    rw [List.cons_append] at hr ⊢
    rw [Pq.rq, Pq.rq, hr, if_neg hc, if_neg hc]
    by_cases h34 : c = 34
    · rw [if_pos h34, if_pos h34]; rfl
    · rw [if_neg h34, if_neg h34]
      cases hb : Pq.rb (c :: t) with
      | none => rfl
      | some bk =>
        obtain ⟨b, k⟩ := bk
        have hk := Pq.rb_len _ _ _ hb
        simp only [List.length_cons] at hk
        simp only
        rw [List.drop_append_of_le_length (by omega)]
        exact rq_end10 n (t.drop (k - 1)) _ (by rw [List.length_drop]; simp at h; omega) (fun hm' => hm (List.mem_cons_of_mem _ (List.mem_of_mem_drop hm')))
theorem plain_10 : Pq.plain 10 = false := by decide
theorem tw_end : ∀ l : Bs, (l ++ [10]).takeWhile Pq.plain = l.takeWhile Pq.plain ∧ (l ++ [10]).dropWhile Pq.plain = l.dropWhile Pq.plain ++ [10]
  | [] => by simp [plain_10]
  | c :: l => by
    have ih := tw_end l
    rw [List.cons_append, List.takeWhile_cons, List.takeWhile_cons, List.dropWhile_cons, List.dropWhile_cons]
    cases Pq.plain c with
    | true => simp only [if_true]; exact ⟨by rw [ih.1], ih.2⟩
    | false => simp
theorem unq_end {l : Bs} (h : (10 : UInt8) ∉ l) : Pq.unq (l ++ [10]) = (Pq.unq l).map fun p => (p.1, p.2 ++ [10]) := by
  cases l with
  | nil => decide
  | cons c t =>
    unfold Pq.unq
    by_cases hc : c = 34
    · rw [if_pos (show ((c :: t) ++ [10] : Bs).head? = some (34 : UInt8) by rw [hc]; rfl), if_pos (show (c :: t : Bs).head? = some (34 : UInt8) by rw [hc]; rfl)]
      exact rq_end10 t.length t [] (Nat.le_refl _) (fun hm => h (List.mem_cons_of_mem _ hm))
    · rw [if_neg (show ¬ ((c :: t) ++ [10] : Bs).head? = some (34 : UInt8) from fun e => hc (Option.some.inj e)), if_neg (show ¬ (c :: t : Bs).head? = some (34 : UInt8) from fun e => hc (Option.some.inj e)), (tw_end (c :: t)).1, (tw_end (c :: t)).2]
      rfl
/-- behind a path -/
def stmp (a r : Bs) : Option (Bs × Bs) := match r with
  | [] => some (a, [])
  | c :: r' => if c = 9 then some (a, r') else none
/-- as the program reads it -/
def hdrP (mark x : Bs) : Option (Bs × Bs) := match pre mark x with
  | none => none
  | some t => match Pq.unq (bare t) with
    | none => none
    | some (a, r) => stmp a r
/-- as the document does -/
def hdrD (mark x : Bs) : Option (Bs × Bs) := match pre mark x with
  | none => none
  | some t => match Pq.unq t with
    | none => none
    | some (a, r) => stmp a (bare r)
theorem bare_end (p : Bs) : bare (p ++ [10]) = p := by
  unfold bare
  have : Pl.wh (p ++ [10]) = true := by unfold Pl.wh; simp
  rw [if_pos this]
  simp
theorem hdr_eq {mark x : Bs} (hk : (10 : UInt8) ∉ mark) (hx : ∃ p, x = p ++ [10] ∧ (10 : UInt8) ∉ p) : hdrP mark x = hdrD mark x := by
  obtain ⟨p, rfl, hp⟩ := hx
  unfold hdrP hdrD
  cases h : pre mark (p ++ [10]) with
  | none => rfl
  | some t =>
    have e := pre_some.1 h
    have ht : ∃ t', t = t' ++ [10] ∧ (10 : UInt8) ∉ t' := by
      rcases List.eq_nil_or_concat t with rfl | ⟨t', c, rfl⟩
      · exfalso
        rw [List.append_nil] at e
        exact hk (by rw [← e]; simp)
      · have e2 : p ++ [10] = (mark ++ t') ++ [c] := by rw [e]; simp
        obtain ⟨e3, e4⟩ := List.append_inj' e2 rfl
        refine ⟨t', by rw [List.concat_eq_append]; rw [← List.cons_eq_cons.1 e4 |>.1], fun hm => hp (by rw [e3]; exact List.mem_append_right _ hm)⟩
    obtain ⟨t', rfl, ht'⟩ := ht
    simp only
    rw [bare_end, unq_end ht']
    cases Pq.unq t' with
    | none => rfl
    | some q =>
      simp only [Option.map_some]
      rw [bare_end]
/-! ### rows, by the text -/
theorem rowsP_stop (s : Bs) (c : Nat) : rowsP (lns s) 0 0 c = if isEnd (nx s) then .bad c else .ok [] (lns s) c := by
  by_cases e : s = []
  · subst e; rfl
  · have h := lns_cons e
    rw [h]
    cases lns (s.drop (Pl.fl s)) with
    | nil => rw [rowsP]; simp
    | cons y l => rw [rowsP]; simp
theorem rowsP_step (s : Bs) (n m c : Nat) (h : ¬ (n = 0 ∧ m = 0)) : rowsP (lns s) n m c = match mark (nx s) with
    | none => .bad c
    | some (k, j) => match less k n m with
      | none => .bad c
      | some (n', m') => if isEnd (nx (adv s)) then (rowsP (lns (adv (adv s))) n' m' (c + 2)).cons (k, bare ((nx s).drop j)) else (rowsP (lns (adv s)) n' m' (c + 1)).cons (k, (nx s).drop j) := by
  by_cases e : s = []
  · subst e
    have e1 : lns [] = [] := rfl
    rw [e1, rowsP, if_neg h]
    rfl
  · have h1 : lns s = nx s :: lns (adv s) := lns_cons e
    rw [h1]
    by_cases e2 : adv s = []
    · rw [e2]
      have e3 : lns [] = [] := rfl
      rw [e3, rowsP, if_neg h]
      cases mark (nx s) with
      | none => rfl
      | some kj =>
        obtain ⟨k, j⟩ := kj
        simp only
        cases less k n m with
        | none => rfl
        | some p =>
          obtain ⟨n', m'⟩ := p
          simp only
          have e4 : isEnd (nx []) = false := rfl
          rw [e4, rowsP]
          simp only [Bool.false_eq_true, if_false]
          split <;> rfl
    · have h2 : lns (adv s) = nx (adv s) :: lns (adv (adv s)) := lns_cons e2
      rw [h2, rowsP, if_neg h]
      rfl
def toR (r : Int × Bs) : Rw := ⟨r.1, ⟨r.2.toArray⟩⟩
theorem rowsP_drop : ∀ (n : Nat) (ls : List Bs) (x y c : Nat) (rows : List (Int × Bs)) (ls' : List Bs) (c' : Nat), ls.length ≤ n → rowsP ls x y c = .ok rows ls' c' → c ≤ c' ∧ ls' = ls.drop (c' - c)
  | _, [], x, y, c, rows, ls', c', _, h => by
    rw [rowsP] at h
    split at h
    · cases h; exact ⟨Nat.le_refl _, by simp⟩
    · cases h
  | n, [z], x, y, c, rows, ls', c', _, h => by
    rw [rowsP] at h
    split at h
    · split at h
      · cases h
      · cases h; exact ⟨Nat.le_refl _, by simp⟩
    · split at h
      · cases h
      · split at h
        · cases h
        · split at h
          · cases h; exact ⟨by omega, by rw [show c + 1 - c = 1 by omega]; rfl⟩
          · cases h
  | 0, _ :: _ :: _, _, _, _, _, _, _, hn, _ => by simp at hn
  | n + 1, z :: z2 :: ls, x, y, c, rows, ls', c', hn, h => by
    rw [rowsP] at h
    split at h
    · split at h
      · cases h
      · cases h; exact ⟨Nat.le_refl _, by simp⟩
    · split at h
      · cases h
      · rename_i k j _
        split at h
        · cases h
        · rename_i n' m' _
          split at h
          · cases hr : rowsP ls n' m' (c + 2) with
            | bad q => rw [hr] at h; cases h
            | ok r2 l2 c2 =>
              rw [hr] at h
              cases h
              have := rowsP_drop n ls n' m' (c + 2) r2 ls' c' (by simp at hn; omega) hr
              refine ⟨by omega, ?_⟩
              rw [this.2, show c' - c = (c' - (c + 2)) + 2 by omega]
              rfl
          · cases hr : rowsP (z2 :: ls) n' m' (c + 1) with
            | bad q => rw [hr] at h; cases h
            | ok r2 l2 c2 =>
              rw [hr] at h
              cases h
              have := rowsP_drop n (z2 :: ls) n' m' (c + 1) r2 ls' c' (by simp at hn ⊢; omega) hr
              refine ⟨by omega, ?_⟩
              rw [this.2, show c' - c = (c' - (c + 1)) + 1 by omega]
              rfl
/-! ### hunks -/
def mkHk (p : Plc) (rows : List (Int × Bs)) : Hk := ⟨p.a, p.n, p.b, p.m, ⟨p.head.toArray⟩, rows.map toR⟩
def inO (g h : Hk) : Bool := decide (Hu.plc g.a g.n + g.n ≤ Hu.plc h.a h.n) && decide (Hu.plc g.b g.m + g.m ≤ Hu.plc h.b h.m)
def okO (acc : List Hk) (h : Hk) : Bool := match acc.getLast? with
  | none => true
  | some g => inO g h
def begs (x : Bs) : Bool := mkB.isPrefixOf x
inductive Pr where
  | bad (c e : Nat)
  | ok (hs : List Hk) (c : Nat)
def Pr.fin (c : Nat) (acc : List Hk) : Pr := if acc = [] then .bad c 100 else .ok acc c
def hunksF : Nat → List Bs → Nat → List Hk → Pr
  | 0, _, c, _ => .bad c 0
  | _ + 1, [], c, acc => .fin c acc
  | f + 1, x :: ls, c, acc => if begs x then match placeP (bare x) with
      | none => .bad c 100
      | some p => match rowsP ls p.n p.m (c + 1) with
        | .bad c' => .bad c' 111
        | .ok rows ls' c' => if Hu.vld (mkHk p rows) then (if okO acc (mkHk p rows) then hunksF f ls' c' (acc ++ [mkHk p rows]) else .bad c 112) else .bad c 100
    else .fin c acc
/-- by the text -/
theorem hunksF_step (f : Nat) (s : Bs) (c : Nat) (acc : List Hk) : hunksF (f + 1) (lns s) c acc = if begs (nx s) then match placeP (bare (nx s)) with
      | none => .bad c 100
      | some p => match rowsP (lns (adv s)) p.n p.m (c + 1) with
        | .bad c' => .bad c' 111
        | .ok rows ls' c' => if Hu.vld (mkHk p rows) then (if okO acc (mkHk p rows) then hunksF f ls' c' (acc ++ [mkHk p rows]) else .bad c 112) else .bad c 100
    else .fin c acc := by
  by_cases e : s = []
  · subst e; rfl
  · have h1 : lns s = nx s :: lns (adv s) := lns_cons e
    rw [h1, hunksF]
/-! ### the whole -/
def mkOld : Bs := [45, 45, 45, 32]
def mkNew : Bs := [43, 43, 43, 32]
inductive Ps where
  | bad (c e : Nat)
  | ok (old new : Bs × Bs) (hs : List Hk) (rest : Bs)
/-- what Parse answers -/
def parse (s : Bs) : Ps := if 4194304 < s.length then .bad 0 2 else
  match hdrP mkOld (nx s) with
  | none => .bad 1 110
  | some o => match hdrP mkNew (nx (adv s)) with
    | none => .bad 2 110
    | some q => match hunksF (s.length + 1) (lns (advN 2 s)) 3 [] with
      | .bad c e => .bad c e
      | .ok hs c => .ok o q hs (advN (c - 1) s)
end Go.Proofs.YtkolgglllladfaaGreatDoor.Un
