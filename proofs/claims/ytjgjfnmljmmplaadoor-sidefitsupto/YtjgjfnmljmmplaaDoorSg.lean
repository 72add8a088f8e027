/-
  Two columns, plain: what of a line fits into a width; the rows; both texts beside each other, as the program and as the document put them together.
-/
import Derived.Test.YtjgjfnmljmmplaaDoorS0
namespace Go.Proofs.YtjgjfnmljmmplaaDoor
namespace Sd
/-- so many blanks -/
def blk (n : Nat) : Bs := List.replicate n 32
theorem blk_len (n : Nat) : (blk n).length = n := List.length_replicate
theorem blk_add (n m : Nat) : blk n ++ blk m = blk (n + m) := List.replicate_append_replicate
/-- what a byte is told as -/
def told (fr at_ : Nat) (c : UInt8) : Bs := if c = 9 then blk (8 - (fr + at_) % 8) else [c]
theorem told_pos (fr k : Nat) (c : UInt8) : 1 ≤ (told fr k c).length ∧ (told fr k c).length ≤ 8 := by
  unfold told
  split
  · rw [blk_len]; omega
  · simp
/-- what fits -/
def cutT (fr : Nat) (wd : Int) : Bs → Bs → Bs
  | acc, [] => acc
  | acc, c :: r => if wd - acc.length < (told fr acc.length c).length then acc else cutT fr wd (acc ++ told fr acc.length c) r
theorem cut_stop {fr : Nat} {wd : Int} {acc : Bs} {c : UInt8} {r : Bs} (h : wd - acc.length < (told fr acc.length c).length) : cutT fr wd acc (c :: r) = acc := by
  unfold cutT; rw [if_pos h]
theorem cut_on {fr : Nat} {wd : Int} {acc : Bs} {c : UInt8} {r : Bs} (h : ¬ (wd - acc.length < (told fr acc.length c).length)) : cutT fr wd acc (c :: r) = cutT fr wd (acc ++ told fr acc.length c) r := by
  rw [cutT, if_neg h]
theorem cut_width (fr : Nat) (wd : Int) : ∀ (l acc : Bs), (acc.length : Int) ≤ max wd 0 → ((cutT fr wd acc l).length : Int) ≤ max wd 0
  | [], acc, h => h
  | c :: r, acc, h => by
    unfold cutT
    split
    · exact h
    · next hn =>
      refine cut_width fr wd r _ ?_
      rw [List.length_append]
      omega
theorem cut_le (fr : Nat) (wd : Int) : ∀ (l acc : Bs), (cutT fr wd acc l).length ≤ acc.length + 8 * l.length
  | [], acc => by unfold cutT; simp
  | c :: r, acc => by
    unfold cutT
    split
    · omega
    · have h1 := cut_le fr wd r (acc ++ told fr acc.length c)
      have h2 := (told_pos fr acc.length c).2
      rw [List.length_append] at h1
      rw [List.length_cons]
      omega
theorem cut_narrow {fr : Nat} {wd : Int} (h : wd < 1) (l : Bs) : cutT fr wd [] l = [] := by
  cases l with
  | nil => rfl
  | cons c r =>
    refine cut_stop ?_
    have := (told_pos fr ([] : Bs).length c).1
    simp only [List.length_nil] at this ⊢
    omega
/-- nothing told but what the line has, and blanks -/
theorem cut_mem (fr : Nat) (wd : Int) : ∀ (l acc : Bs) (x : UInt8), x ∈ cutT fr wd acc l → x ∈ acc ∨ x ∈ l ∨ x = 32
  | [], acc, x, h => .inl h
  | c :: r, acc, x, h => by
    unfold cutT at h
    split at h
    · exact .inl h
    · rcases cut_mem fr wd r _ x h with h | h | h
      · rcases List.mem_append.1 h with h | h
        · exact .inl h
        · refine .inr ?_
          unfold told at h
          split at h
          · exact .inr (List.mem_replicate.1 h).2
          · exact .inl (by rw [List.mem_singleton.1 h]; exact List.mem_cons_self ..)
      · exact .inr (.inl (List.mem_cons_of_mem _ h))
      · exact .inr (.inr h)

/-! ### a row -/
/-- the row of two cut lines -/
def rowG (half : Nat) (l : Bs) (mk : UInt8) (r : Bs) : Bs := l ++ ((if mk ≠ 32 ∨ r ≠ [] then blk (half + 1 - l.length) ++ [mk] else []) ++ ((if r ≠ [] then 32 :: r else []) ++ [10]))
/-- the text of a row without its end, where the new side is empty: what the document's cutting of blanks leaves -/
def rowY (half : Nat) (l : Bs) (mk : UInt8) : Bs := if mk = 32 then l else l ++ blk (half + 1 - l.length) ++ [mk]
theorem row_bare {half : Nat} {l : Bs} {mk : UInt8} : rowG half l mk [] = rowY half l mk ++ [10] := by
  unfold rowG rowY
  by_cases h : mk = 32
  · simp [h]
  · simp [h]
theorem blk_more (n : Nat) : blk n ++ [32] = blk (n + 1) := List.replicate_succ'.symm
/-- the document's row ahead of that: the rest are blanks -/
theorem row_pre {half : Nat} {l : Bs} {mk : UInt8} (h : l.length ≤ half) : ∃ k, l ++ blk (half - l.length) ++ [32] ++ [mk] ++ [32] = rowY half l mk ++ blk (k + 1) := by
  have hb : blk (half - l.length) ++ [32] = blk (half + 1 - l.length) := by
    rw [blk_more]; congr 1; omega
  unfold rowY
  by_cases hm : mk = 32
  · subst hm
    refine ⟨half - l.length + 2, ?_⟩
    rw [if_pos rfl, List.append_assoc, List.append_assoc, List.append_assoc]
    congr 1
    exact blk_add _ 3
  · refine ⟨0, ?_⟩
    rw [if_neg hm, List.append_assoc l, hb]
    rfl
theorem row_stop {half : Nat} {l : Bs} {mk : UInt8} : l.length = (rowY half l mk).length ∨ (l.length < (rowY half l mk).length ∧ (rowY half l mk).getLast? ≠ some 32) := by
  unfold rowY
  by_cases hm : mk = 32
  · rw [if_pos hm]; exact .inl rfl
  · rw [if_neg hm]
    refine .inr ⟨by simp, ?_⟩
    rw [List.getLast?_concat]
    intro e
    exact hm (Option.some.inj e)
theorem rowY_ge {half : Nat} {l : Bs} {mk : UInt8} : l.length ≤ (rowY half l mk).length := by
  rcases row_stop (half := half) (l := l) (mk := mk) with h | h
  · omega
  · omega
theorem row_full {half : Nat} {l : Bs} {mk : UInt8} {r : Bs} (h : l.length ≤ half) (hr : r ≠ []) : l ++ blk (half - l.length) ++ [32] ++ [mk] ++ [32] ++ r ++ [10] = rowG half l mk r := by
  have hb : blk (half - l.length) ++ [32] = blk (half + 1 - l.length) := by
    rw [blk_more]; congr 1; omega
  unfold rowG
  rw [if_pos (.inr hr), if_pos hr, ← hb]
  simp
theorem row_ne {half : Nat} {l : Bs} {mk : UInt8} {r : Bs} : rowG half l mk r ≠ [] := by
  unfold rowG
  simp
theorem row_len {half : Nat} {l : Bs} {mk : UInt8} {r : Bs} (h : l.length ≤ half) (hr : r.length ≤ half) : (rowG half l mk r).length ≤ 2 * half + 4 := by
  unfold rowG
  split <;> split <;> simp [blk_len] <;> omega

/-! ### lines beside each other -/
/-- a line without its end -/
def bare (l : Bs) : Bs := if l.getLast? = some 10 then l.dropLast else l
def whole (l : Bs) : Bool := l.getLast? == some 10
/-- the mark between two lines beside each other -/
def mkT (a b : Bs) : UInt8 := if a = b then 32 else if bare a ≠ bare b then 124 else if whole a then 47 else 92
theorem bare_app (l : Bs) : bare (l ++ [10]) = l := by
  unfold bare
  rw [List.getLast?_concat, if_pos rfl, List.dropLast_concat]
theorem bare_or (l : Bs) : (whole l = true ∧ l = bare l ++ [10]) ∨ (whole l = false ∧ bare l = l) := by
  by_cases h : l.getLast? = some 10
  · obtain ⟨y, hy⟩ := List.getLast?_eq_some_iff.1 h
    subst hy
    refine .inl ⟨?_, by rw [bare_app]⟩
    unfold whole
    rw [h]
    rfl
  · refine .inr ⟨?_, ?_⟩
    · unfold whole
      simpa using h
    · unfold bare
      rw [if_neg h]
theorem mkT_prog {a b : Bs} : mkT a b = (if a = b then 32 else if bare a ≠ bare b then 124 else if whole b then 92 else 47) := by
  unfold mkT
  by_cases h : a = b
  · rw [if_pos h, if_pos h]
  · rw [if_neg h, if_neg h]
    by_cases hb : bare a = bare b
    · rw [if_neg (show ¬ (bare a ≠ bare b) from fun e => e hb), if_neg (show ¬ (bare a ≠ bare b) from fun e => e hb)]
      rcases bare_or a with ⟨h1, h2⟩ | ⟨h1, h2⟩ <;> rcases bare_or b with ⟨h3, h4⟩ | ⟨h3, h4⟩
      · exact absurd (by rw [h2, h4, hb]) h
      · rw [h1, h3]; rfl
      · rw [h1, h3]; rfl
      · exact absurd (by rw [← h2, ← h4, hb]) h
    · rw [if_pos hb, if_pos hb]
/-- a row of two lines -/
def rowT (half second : Nat) (a : Bs) (mk : UInt8) (b : Bs) : Bs := rowG half (cutT 0 half [] (bare a)) mk (cutT (second % 8) half [] (bare b))
theorem cut_half (fr half : Nat) (l : Bs) : (cutT fr half [] l).length ≤ half := by
  have := cut_width fr half l [] (by simp)
  omega
theorem rowT_len (half second : Nat) (a : Bs) (mk : UInt8) (b : Bs) : (rowT half second a mk b).length ≤ 2 * half + 4 := row_len (cut_half ..) (cut_half ..)
def bes (half second : Nat) : List Bs → List Bs → Bs
  | a :: l, b :: m => rowT half second a (mkT a b) b ++ bes half second l m
  | _, _ => []
def olds (half second : Nat) (l : List Bs) : Bs := l.flatMap fun a => rowT half second a 60 []
def news (half second : Nat) (l : List Bs) : Bs := l.flatMap fun b => rowT half second [] 62 b
/-- a change -/
def chg (half second : Nat) : List Bs → List Bs → Bs
  | a :: l, b :: m => rowT half second a (mkT a b) b ++ chg half second l m
  | [], m => news half second m
  | l, [] => olds half second l
theorem bes_take (half second : Nat) : ∀ (l m : List Bs) (n : Nat), n = min l.length m.length → chg half second l m = bes half second (l.take n) (m.take n) ++ (olds half second (l.drop n) ++ news half second (m.drop n))
  | [], [], n, h => by subst h; rfl
  | [], b :: m, n, h => by subst h; simp [chg, bes, olds]
  | a :: l, [], n, h => by subst h; simp [chg, bes, news]
  | a :: l, b :: m, n, h => by
    obtain ⟨k, rfl⟩ : ∃ k, n = k + 1 := ⟨min l.length m.length, by simp only [List.length_cons] at h; omega⟩
    rw [chg, bes_take half second l m k (by simp only [List.length_cons] at h; omega)]
    simp [bes]
end Sd
end Go.Proofs.YtjgjfnmljmmplaaDoor
