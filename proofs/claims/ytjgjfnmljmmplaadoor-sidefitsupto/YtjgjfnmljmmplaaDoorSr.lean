/-
  Both columns, plain: as the document goes through them (layer 15).
-/
import Derived.Test.YtjgjfnmljmmplaaDoorSq
namespace Go.Proofs.YtjgjfnmljmmplaaDoor
namespace Sy
open Go.RowKit
open Ed (Ch)

/-- a change's rows -/
def chgL (half sec : Nat) : List Sd.Bs → List Sd.Bs → List Sd.Bs
  | a :: l, b :: m => Sd.rowT half sec a (Sd.mkT a b) b :: chgL half sec l m
  | [], m => m.map fun b => Sd.rowT half sec [] 62 b
  | l, [] => l.map fun a => Sd.rowT half sec a 60 []
theorem chgL_flat (half sec : Nat) : ∀ L M : List Sd.Bs, (chgL half sec L M).flatten = Sd.chg half sec L M
  | [], M => by
    have : Sd.chg half sec [] M = Sd.news half sec M := by cases M <;> rfl
    rw [this]
    have : chgL half sec [] M = M.map fun b => Sd.rowT half sec [] 62 b := by cases M <;> rfl
    rw [this]
    unfold Sd.news
    rw [List.flatMap_def]
  | x :: L, [] => by
    show ((x :: L).map fun a => Sd.rowT half sec a 60 []).flatten = Sd.olds half sec (x :: L)
    unfold Sd.olds
    rw [List.flatMap_def]
  | x :: L, y :: M => by
    show (Sd.rowT half sec x (Sd.mkT x y) y :: chgL half sec L M).flatten = _
    rw [List.flatten_cons, chgL_flat half sec L M]
    rfl
theorem chgL_len (half sec : Nat) : ∀ L M : List Sd.Bs, (chgL half sec L M).length = max L.length M.length
  | [], M => by cases M <;> simp [chgL]
  | x :: L, [] => by simp [chgL]
  | x :: L, y :: M => by
    have := chgL_len half sec L M
    simp only [chgL, List.length_cons]
    omega
theorem chgL_both (half sec : Nat) : ∀ (j : Nat) (L M : List Sd.Bs) (a b : Sd.Bs), L[j]? = some a → M[j]? = some b → (chgL half sec L M)[j]? = some (Sd.rowT half sec a (Sd.mkT a b) b)
  | 0, x :: L, y :: M, a, b, h1, h2 => by cases h1; cases h2; rfl
  | j + 1, x :: L, y :: M, a, b, h1, h2 => chgL_both half sec j L M a b (by simpa using h1) (by simpa using h2)
theorem chgL_old (half sec : Nat) : ∀ (j : Nat) (L M : List Sd.Bs) (a : Sd.Bs), L[j]? = some a → M.length ≤ j → (chgL half sec L M)[j]? = some (Sd.rowT half sec a 60 [])
  | j, x :: L, [], a, h1, _ => by
    show ((x :: L).map fun a => Sd.rowT half sec a 60 [])[j]? = _
    rw [List.getElem?_map, h1]; rfl
  | 0, x :: L, y :: M, a, _, h2 => by simp at h2
  | j + 1, x :: L, y :: M, a, h1, h2 => chgL_old half sec j L M a (by simpa using h1) (by simpa using h2)
theorem chgL_new (half sec : Nat) : ∀ (j : Nat) (L M : List Sd.Bs) (b : Sd.Bs), M[j]? = some b → L.length ≤ j → (chgL half sec L M)[j]? = some (Sd.rowT half sec [] 62 b)
  | j, [], M, b, h1, _ => by
    have : chgL half sec [] M = M.map fun b => Sd.rowT half sec [] 62 b := by cases M <;> rfl
    rw [this, List.getElem?_map, h1]; rfl
  | 0, x :: L, y :: M, a, _, h2 => by simp at h2
  | j + 1, x :: L, y :: M, b, h1, h2 => chgL_new half sec j L M b (by simpa using h1) (by simpa using h2)
theorem flat_one {L : List Sd.Bs} {j : Nat} {r : Sd.Bs} (h : L[j]? = some r) : (L.take (j + 1)).flatten = (L.take j).flatten ++ r := by
  rw [List.take_add_one, h, List.flatten_append]
  simp
theorem flat_le (L : List Sd.Bs) (j : Nat) : (L.take j).flatten.length ≤ L.flatten.length := by
  have e : L.flatten = (L.take j).flatten ++ (L.drop j).flatten := by rw [← List.flatten_append, List.take_append_drop]
  rw [e, List.length_append]
  omega
/-- the changes with the document's end of them -/
def ends (S : List Ch) (n m : Nat) : List Ch := S ++ [⟨n, 0, m, 0⟩]
theorem prT_ends {half sec : Nat} {A M : List ByteArray} : ∀ (S : List Ch) (i k : Nat), prT half sec A M (ends S A.length M.length) i k = prT half sec A M S i k
  | [], i, k => by
    show Sd.bes half sec ((part A i ((A.length : Nat) : Int).toNat).map dat) ((part M k ((M.length : Nat) : Int).toNat).map dat) ++ (Sd.chg half sec ((part A ((A.length : Nat) : Int).toNat (((A.length : Nat) : Int) + 0).toNat).map dat) ((part M ((M.length : Nat) : Int).toNat (((M.length : Nat) : Int) + 0).toNat).map dat) ++ Sd.bes half sec ((A.drop (((A.length : Nat) : Int) + 0).toNat).map dat) ((M.drop (((M.length : Nat) : Int) + 0).toNat).map dat)) = _
    rw [Int.add_zero, Int.add_zero, Int.toNat_natCast, Int.toNat_natCast]
    have e1 : part A A.length A.length = [] := by unfold part; simp
    have e2 : part M M.length M.length = [] := by unfold part; simp
    have e3 : part A i A.length = A.drop i := by unfold part; rw [List.take_of_length_le (by rw [List.length_drop]; exact Nat.le_refl _)]
    have e4 : part M k M.length = M.drop k := by unfold part; rw [List.take_of_length_le (by rw [List.length_drop]; exact Nat.le_refl _)]
    rw [e1, e2, e3, e4, List.drop_length, List.drop_length]
    show _ ++ (Sd.chg half sec [] [] ++ Sd.bes half sec [] []) = _
    rw [show Sd.chg half sec [] [] = [] from rfl, show Sd.bes half sec [] [] = [] from rfl]
    simp [prT]
  | c :: r, i, k => by
    show _ ++ (_ ++ prT half sec A M (ends r A.length M.length) _ _) = _ ++ (_ ++ prT half sec A M r _ _)
    rw [prT_ends r]
/-- where one is between two changes -/
def okAt (S : List Ch) (n m k da db : Nat) : Prop := (k ≤ S.length → Ed.val (S.drop k) da db n m = true) ∧ (S.length < k → da = n ∧ db = m)
theorem ok_step {S : List Ch} {n m k da db : Nat} {x : Ch} (hn : da ≤ n) (hm : db ≤ m) (h : okAt S n m k da db) (hx : (ends S n m)[k]? = some x) :
    ∃ xa ya xb yb : Nat, x = ⟨xa, ((ya - xa : Nat) : Int), xb, ((yb - xb : Nat) : Int)⟩ ∧ da ≤ xa ∧ xa ≤ ya ∧ ya ≤ n ∧ db ≤ xb ∧ xb ≤ yb ∧ yb ≤ m ∧ xb - db = xa - da ∧ okAt S n m (k + 1) ya yb := by
  unfold ends at hx
  by_cases hk : k < S.length
  · rw [List.getElem?_append_left hk] at hx
    obtain ⟨⟨⟨o1, o2, o3⟩, ⟨o4, o5, o6⟩, _, o7⟩, hv2⟩ := val_at (h.1 (Nat.le_of_lt hk)) hx
    obtain ⟨ca, cn, cb, cm⟩ := x
    dsimp only at o1 o2 o3 o4 o5 o6 o7 hv2
    refine ⟨ca.toNat, (ca + cn).toNat, cb.toNat, (cb + cm).toNat, ?_, by omega, by omega, by omega, by omega, by omega, by omega, by omega, fun _ => ?_, fun h9 => by omega⟩
    · rw [show ((ca.toNat : Nat) : Int) = ca by omega, show ((((ca + cn).toNat - ca.toNat : Nat)) : Int) = cn by omega, show ((cb.toNat : Nat) : Int) = cb by omega, show ((((cb + cm).toNat - cb.toNat : Nat)) : Int) = cm by omega]
    · rw [show (((ca + cn).toNat : Nat) : Int) = ca + cn by omega, show (((cb + cm).toNat : Nat) : Int) = cb + cm by omega]
      exact hv2
  · have hk2 : k = S.length := by
      have := (List.getElem?_eq_some_iff.1 hx).1
      rw [List.length_append, List.length_singleton] at this
      omega
    subst hk2
    rw [List.getElem?_append_right (Nat.le_refl _), Nat.sub_self] at hx
    cases hx
    have hv := h.1 (Nat.le_refl _)
    rw [List.drop_length] at hv
    have hnm : (n : Int) - da = m - db := by simpa [Ed.val] using hv
    refine ⟨n, n, m, m, ?_, hn, Nat.le_refl _, Nat.le_refl _, hm, Nat.le_refl _, Nat.le_refl _, by omega, fun h9 => by omega, fun _ => ⟨rfl, rfl⟩⟩
    rw [Nat.sub_self, Nat.sub_self]
    rfl
theorem part_at {L : List ByteArray} {x y j : Nat} {a : ByteArray} (hj : x + j < y) (h : L[x + j]? = some a) : (part L x y)[j]? = some a := by
  unfold part
  rw [List.getElem?_take, if_pos (by omega), List.getElem?_drop]
  exact h
end Sy
end Go.Proofs.YtjgjfnmljmmplaaDoor
