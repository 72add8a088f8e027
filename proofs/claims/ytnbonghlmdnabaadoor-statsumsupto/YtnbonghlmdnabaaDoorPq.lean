/-
  Plain laws on names as they stand in headers, quoted or not: no program, no world.
-/
import Derived.Lib.Bytealg
namespace Go.Proofs.YtnbonghlmdnabaaDoor.Pq
open Go

/-- a byte for which a name is quoted -/
def bad (c : UInt8) : Bool := decide (c.toNat < 33) || c.toNat == 34 || c.toNat == 92 || decide (127 ≤ c.toNat)
def needs (l : List UInt8) : Bool := l.any bad || l.isEmpty

def meant : List UInt8 := [7, 8, 9, 10, 11, 12, 13, 34, 92]
def letters : List UInt8 := [97, 98, 116, 110, 118, 102, 114, 34, 92]

/-- a byte as it stands between quotes -/
def esc (c : UInt8) : List UInt8 :=
  if 0 ≤ Lib.indexByte meant c then [92, letters.getD (Lib.indexByte meant c).toNat 0]
  else if 32 ≤ c.toNat ∧ c.toNat ≤ 126 then [c]
  else [92, (48 + c.toNat / 64).toUInt8, (48 + c.toNat / 8 % 8).toUInt8, (48 + c.toNat % 8).toUInt8]

def body (l : List UInt8) : List UInt8 := l.flatMap esc
def quote (l : List UInt8) : List UInt8 := if needs l = true then 34 :: (body l ++ [34]) else l

def oct (d : UInt8) : Bool := decide (48 ≤ d.toNat) && decide (d.toNat ≤ 55)

/-- the byte at the beginning of a text, and how many bytes stand for it -/
def rb : List UInt8 → Option (UInt8 × Nat)
  | [] => none
  | c :: t => if c ≠ 92 then some (c, 1) else
    match t with
    | [] => none
    | d :: u => if 0 ≤ Lib.indexByte letters d then some (meant.getD (Lib.indexByte letters d).toNat 0, 2) else
      match u with
      | e :: f :: _ => if oct d = true ∧ oct e = true ∧ oct f = true ∧ d.toNat ≤ 51 then some (((d.toNat - 48) * 64 + (e.toNat - 48) * 8 + (f.toNat - 48)).toUInt8, 4) else none
      | _ => none

/-- what stands up to the closing quote, and the rest -/
def rq (out l : List UInt8) : Option (List UInt8 × List UInt8) :=
  match l with
  | [] => none
  | c :: t => if c = 10 then none else if c = 34 then some (out, t) else
    match rb (c :: t) with
    | none => none
    | some (b, k) => rq (out ++ [b]) (t.drop (k - 1))
termination_by l.length
decreasing_by simp; omega

def plain (c : UInt8) : Bool := !(c.toNat == 9 || c.toNat == 10)
def unq (l : List UInt8) : Option (List UInt8 × List UInt8) :=
  if l.head? = some 34 then rq [] l.tail else some (l.takeWhile plain, l.dropWhile plain)

theorem all_bytes (p : UInt8 → Bool) (h : ((List.range 256).all fun n => p n.toUInt8) = true) (c : UInt8) : p c = true := by
  have h1 := List.all_eq_true.1 h c.toNat (List.mem_range.2 c.toNat_lt)
  have h2 : c.toNat.toUInt8 = c := by simp
  rwa [h2] at h1

theorem esc_read (c : UInt8) : rb (esc c) = some (c, (esc c).length) := by
  have := all_bytes (fun c => rb (esc c) == some (c, (esc c).length)) (by decide +kernel) c
  simpa using this
theorem esc_head (c : UInt8) : ((esc c).head? == some 10 || (esc c).head? == some 34 || (esc c).isEmpty) = false := by
  have := all_bytes (fun c => !((esc c).head? == some 10 || (esc c).head? == some 34 || (esc c).isEmpty)) (by decide +kernel) c
  simpa using this
theorem esc_len (c : UInt8) : 1 ≤ (esc c).length ∧ (esc c).length ≤ 4 := by
  have := all_bytes (fun c => decide (1 ≤ (esc c).length ∧ (esc c).length ≤ 4)) (by decide +kernel) c
  simpa using this
theorem esc_seen (c : UInt8) : ∀ d ∈ esc c, 32 ≤ d.toNat ∧ d.toNat ≤ 126 := by
  have := all_bytes (fun c => (esc c).all fun d => decide (32 ≤ d.toNat ∧ d.toNat ≤ 126)) (by decide +kernel) c
  intro d hd
  simpa using List.all_eq_true.1 this d hd

theorem rb_more (l t : List UInt8) (b : UInt8) (k : Nat) (h : rb l = some (b, k)) (_hk : l.length = k) : rb (l ++ t) = some (b, k) := by
  rcases l with _ | ⟨c, _ | ⟨d, _ | ⟨e, _ | ⟨f, l⟩⟩⟩⟩
  · cases h
  · by_cases hc : c = 92
    · subst hc; simp [rb] at h
    · simp only [rb, ne_eq, hc, not_false_eq_true, if_true, List.cons_append, List.nil_append] at h ⊢; exact h
  · by_cases hc : c = 92
    · subst hc
      by_cases hd : 0 ≤ Lib.indexByte letters d
      · simp only [rb, ne_eq, not_true_eq_false, if_false, hd, if_true, List.cons_append, List.nil_append] at h ⊢; exact h
      · simp [rb, hd] at h
    · simp only [rb, ne_eq, hc, not_false_eq_true, if_true, List.cons_append, List.nil_append] at h ⊢; exact h
  · by_cases hc : c = 92
    · subst hc
      by_cases hd : 0 ≤ Lib.indexByte letters d
      · simp only [rb, ne_eq, not_true_eq_false, if_false, hd, if_true, List.cons_append, List.nil_append] at h ⊢; exact h
      · simp [rb, hd] at h
    · simp only [rb, ne_eq, hc, not_false_eq_true, if_true, List.cons_append, List.nil_append] at h ⊢; exact h
  · by_cases hc : c = 92
    · subst hc
      by_cases hd : 0 ≤ Lib.indexByte letters d
      · simp only [rb, ne_eq, not_true_eq_false, if_false, hd, if_true, List.cons_append] at h ⊢; exact h
      · simp only [rb, ne_eq, not_true_eq_false, if_false, hd, List.cons_append] at h ⊢; exact h
    · simp only [rb, ne_eq, hc, not_false_eq_true, if_true, List.cons_append] at h ⊢; exact h

/-- so many bytes stand for one, and no more than there are -/
theorem rb_len (l : List UInt8) (b : UInt8) (k : Nat) (h : rb l = some (b, k)) : 1 ≤ k ∧ k ≤ l.length := by
  rcases l with _ | ⟨c, _ | ⟨d, _ | ⟨e, _ | ⟨f, l⟩⟩⟩⟩
  · cases h
  all_goals
    by_cases hc : c = 92
    · subst hc
      first
        | (simp [rb] at h; done)
        | (by_cases hd : 0 ≤ Lib.indexByte letters d
           · simp only [rb, ne_eq, not_true_eq_false, if_false, hd, if_true, Option.some.injEq, Prod.mk.injEq] at h
             simp; omega
           · first
               | (simp [rb, hd] at h; done)
               | (simp only [rb, ne_eq, not_true_eq_false, if_false, hd] at h
                  split at h
                  · simp only [Option.some.injEq, Prod.mk.injEq] at h
                    simp; omega
                  · cases h))
    · simp only [rb, ne_eq, hc, not_false_eq_true, if_true, Option.some.injEq, Prod.mk.injEq] at h
      simp; omega

theorem rq_nil (out : List UInt8) : rq out [] = none := by rw [rq]
theorem rq_end (out t : List UInt8) : rq out (10 :: t) = none := by rw [rq]; simp
theorem rq_mark (out t : List UInt8) : rq out (34 :: t) = some (out, t) := by rw [rq]; simp
theorem rq_none (out t : List UInt8) (c : UInt8) (h2 : c ≠ 34) (h : rb (c :: t) = none) : rq out (c :: t) = none := by
  rw [rq]
  by_cases h1 : c = 10
  · simp [h1]
  · simp only [h1, h2, if_false, h]
theorem rq_some (out t : List UInt8) (c b : UInt8) (k : Nat) (h1 : c ≠ 10) (h2 : c ≠ 34) (h : rb (c :: t) = some (b, k)) : rq out (c :: t) = rq (out ++ [b]) ((c :: t).drop k) := by
  rw [rq]
  simp only [h1, h2, if_false, h]
  obtain ⟨hk, _⟩ := rb_len _ _ _ h
  obtain ⟨j, rfl⟩ : ∃ j, k = j + 1 := ⟨k - 1, by omega⟩
  simp

theorem rq_esc (out t : List UInt8) (c : UInt8) : rq out (esc c ++ t) = rq (out ++ [c]) t := by
  have h0 := esc_head c
  have h1 := rb_more (esc c) t c _ (esc_read c) rfl
  have h2 : (esc c ++ t).drop (esc c).length = t := by simp
  cases he : esc c with
  | nil => rw [he] at h0; simp at h0
  | cons d u =>
    rw [he] at h0 h1 h2
    simp at h0
    rw [List.cons_append] at h1 h2 ⊢
    rw [rq_some out (u ++ t) d c _ h0.1 h0.2 h1, h2]

theorem rq_body (l out t : List UInt8) : rq out (body l ++ 34 :: t) = some (out ++ l, t) := by
  induction l generalizing out with
  | nil => simp [body, rq_mark]
  | cons c l ih =>
    have : body (c :: l) ++ 34 :: t = esc c ++ (body l ++ 34 :: t) := by simp [body]
    rw [this, rq_esc, ih]
    simp

theorem quote_yes (l : List UInt8) (h : needs l = true) : quote l = 34 :: (body l ++ [34]) := if_pos h
theorem quote_no (l : List UInt8) (h : needs l = false) : quote l = l := if_neg (by rw [h]; simp)

theorem needs_no (l : List UInt8) (h : needs l = false) : l ≠ [] ∧ ∀ c ∈ l, 33 ≤ c.toNat ∧ c.toNat ≠ 34 ∧ c.toNat ≠ 92 ∧ c.toNat ≤ 126 := by
  unfold needs at h
  rw [Bool.or_eq_false_iff] at h
  refine ⟨fun e => by rw [e] at h; simp at h, fun c hc => ?_⟩
  have h1 := h.1
  rw [List.any_eq_false] at h1
  have := h1 c hc
  simp [bad] at this
  omega

/-- the rest is empty, or begins with a byte 9 or 10 -/
def ends (r : List UInt8) : Prop := r = [] ∨ r.head? = some 9 ∨ r.head? = some 10

theorem back_quoted (l r : List UInt8) (h : needs l = true) : unq (quote l ++ r) = some (l, r) := by
  rw [quote_yes l h]
  have e : (34 :: (body l ++ [34])) ++ r = 34 :: (body l ++ 34 :: r) := by simp
  rw [e]
  unfold unq
  simp only [List.head?_cons, if_true, List.tail_cons]
  rw [rq_body]
  rfl

theorem plain_of {c : UInt8} (h : 33 ≤ c.toNat) : plain c = true := by simp [plain]; omega
theorem take_plain (l r : List UInt8) (h : ∀ c ∈ l, plain c = true) (hr : ends r) : (l ++ r).takeWhile plain = l ∧ (l ++ r).dropWhile plain = r := by
  induction l with
  | nil =>
    rcases hr with rfl | hr | hr
    · exact ⟨rfl, rfl⟩
    all_goals
      cases r with
      | nil => cases hr
      | cons c r =>
        obtain rfl : c = _ := Option.some.inj hr
        exact ⟨rfl, rfl⟩
  | cons c l ih =>
    have hc := h c (List.mem_cons_self ..)
    obtain ⟨h1, h2⟩ := ih fun d hd => h d (List.mem_cons_of_mem _ hd)
    rw [List.cons_append]
    exact ⟨by rw [List.takeWhile_cons_of_pos hc, h1], by rw [List.dropWhile_cons_of_pos hc, h2]⟩

theorem head_no (l r : List UInt8) (h : needs l = false) : (l ++ r).head? ≠ some 34 := by
  obtain ⟨hne, ha⟩ := needs_no l h
  cases l with
  | nil => exact absurd rfl hne
  | cons c l =>
    intro e
    obtain rfl : c = 34 := Option.some.inj e
    exact absurd rfl (ha 34 (List.mem_cons_self ..)).2.1

theorem back_plain (l r : List UInt8) (h : needs l = false) (hr : ends r) : unq (quote l ++ r) = some (l, r) := by
  rw [quote_no l h]
  unfold unq
  rw [if_neg (head_no l r h)]
  obtain ⟨_, ha⟩ := needs_no l h
  obtain ⟨h1, h2⟩ := take_plain l r (fun c hc => plain_of (ha c hc).1) hr
  rw [h1, h2]

theorem back (l r : List UInt8) (h : needs l = true ∨ ends r) : unq (quote l ++ r) = some (l, r) := by
  cases hn : needs l with
  | true => exact back_quoted l r hn
  | false =>
    rcases h with h | h
    · rw [h] at hn; cases hn
    · exact back_plain l r hn h
theorem back_nil (l : List UInt8) : unq (quote l) = some (l, []) := by
  have := back l [] (.inr (.inl rfl))
  rwa [List.append_nil] at this
theorem quote_inj (a b : List UInt8) : quote a = quote b ↔ a = b := by
  refine ⟨fun h => ?_, fun h => by rw [h]⟩
  have h1 := back_nil a
  rw [h, back_nil b] at h1
  cases h1
  rfl
theorem quote_head (l : List UInt8) : (quote l).head? = some 34 ↔ needs l = true := by
  cases hn : needs l with
  | true => rw [quote_yes l hn]; simp
  | false =>
    rw [quote_no l hn]
    have := head_no l [] hn
    rw [List.append_nil] at this
    simp [this]
theorem quote_ne (l : List UInt8) : quote l ≠ [] := by
  cases hn : needs l with
  | true => rw [quote_yes l hn]; simp
  | false => rw [quote_no l hn]; exact (needs_no l hn).1

theorem body_len (l : List UInt8) : (body l).length ≤ 4 * l.length := by
  induction l with
  | nil => simp [body]
  | cons c l ih =>
    have := (esc_len c).2
    have e : body (c :: l) = esc c ++ body l := by simp [body]
    rw [e, List.length_append, List.length_cons]
    omega
theorem quote_len (l : List UInt8) : (quote l).length ≤ 4 * l.length + 2 := by
  cases hn : needs l with
  | true =>
    rw [quote_yes l hn]
    have := body_len l
    simp
    omega
  | false => rw [quote_no l hn]; omega
theorem quote_seen (l : List UInt8) : ∀ d ∈ quote l, 32 ≤ d.toNat ∧ d.toNat ≤ 126 := by
  cases hn : needs l with
  | true =>
    rw [quote_yes l hn]
    intro d hd
    simp only [List.mem_cons, List.mem_append, body, List.mem_flatMap, List.not_mem_nil, or_false] at hd
    rcases hd with rfl | ⟨c, _, hc⟩ | rfl
    · decide
    · exact esc_seen c d hc
    · decide
  | false =>
    rw [quote_no l hn]
    intro d hd
    have := (needs_no l hn).2 d hd
    omega

theorem rq_rest (n : Nat) : ∀ (l out a r : List UInt8), l.length ≤ n → rq out l = some (a, r) → ∃ p, l = p ++ r ∧ a.length + 1 ≤ out.length + p.length := by
  induction n with
  | zero =>
    intro l out a r hl h
    obtain rfl : l = [] := List.length_eq_zero_iff.1 (by omega)
    rw [rq_nil] at h; cases h
  | succ n ih =>
    intro l out a r hl h
    cases l with
    | nil => rw [rq_nil] at h; cases h
    | cons c t =>
      by_cases h1 : c = 10
      · subst h1; rw [rq_end] at h; cases h
      · by_cases h2 : c = 34
        · subst h2
          rw [rq_mark] at h
          cases h
          exact ⟨[34], rfl, by simp⟩
        · cases hb : rb (c :: t) with
          | none => rw [rq_none out t c h2 hb] at h; cases h
          | some bk =>
            obtain ⟨b, k⟩ := bk
            rw [rq_some out t c b k h1 h2 hb] at h
            obtain ⟨hk1, hk2⟩ := rb_len _ _ _ hb
            obtain ⟨p, hp, hlen⟩ := ih _ _ _ _ (by rw [List.length_drop]; omega) h
            refine ⟨(c :: t).take k ++ p, ?_, ?_⟩
            · rw [List.append_assoc, ← hp, List.take_append_drop]
            · rw [List.length_append, List.length_take]
              simp at hlen
              omega

theorem unq_rest (l a r : List UInt8) (h : unq l = some (a, r)) : ∃ p, l = p ++ r ∧ a.length ≤ p.length := by
  unfold unq at h
  split at h
  · next h34 =>
    cases l with
    | nil => cases h34
    | cons c t =>
      obtain ⟨p, hp, hl⟩ := rq_rest t.length t [] a r (Nat.le_refl _) h
      have hp' : t = p ++ r := hp
      refine ⟨c :: p, by rw [hp']; rfl, ?_⟩
      simp at hl ⊢
      omega
  · cases h
    exact ⟨_, (List.takeWhile_append_dropWhile ..).symm, Nat.le_refl _⟩
end Go.Proofs.YtnbonghlmdnabaaDoor.Pq
