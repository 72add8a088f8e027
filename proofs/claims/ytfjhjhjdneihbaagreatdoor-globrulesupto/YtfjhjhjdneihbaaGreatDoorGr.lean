/-
  Lists of strings for the rules: as rows of the call's own; rows of truth values.
-/
import Derived.Test.YtfjhjhjdneihbaaGreatDoorGn
namespace Go.Proofs.YtfjhjhjdneihbaaGreatDoor
open Go.RowKit

/-- lists of bytes as strings, and back -/
def BL (l : List (List UInt8)) : List ByteArray := l.map fun x => ⟨x.toArray⟩
def DL (xs : List ByteArray) : List (List UInt8) := xs.map (·.data.toList)
def SV (l : List (List UInt8)) : List Value := l.map fun x => .string ⟨x.toArray⟩
theorem BL_length (l : List (List UInt8)) : (BL l).length = l.length := List.length_map _
theorem DL_length (l : List ByteArray) : (DL l).length = l.length := List.length_map _
theorem SV_length (l : List (List UInt8)) : (SV l).length = l.length := List.length_map _
theorem DL_BL (l : List (List UInt8)) : DL (BL l) = l := by
  unfold DL BL
  rw [List.map_map]
  refine (List.map_congr_left fun x _ => ?_).trans (List.map_id _)
  simp
theorem BL_DL (l : List ByteArray) : BL (DL l) = l := by
  unfold DL BL
  rw [List.map_map]
  refine (List.map_congr_left fun x _ => ?_).trans (List.map_id _)
  exact bytes_eta x
theorem BL_inj {l r : List (List UInt8)} (h : BL l = BL r) : l = r := by rw [← DL_BL l, ← DL_BL r, h]
theorem DL_inj {l r : List ByteArray} (h : DL l = DL r) : l = r := by rw [← BL_DL l, ← BL_DL r, h]
theorem SV_at (l : List (List UInt8)) (j : Nat) (x : ByteArray) (h : (BL l)[j]? = some x) : (SV l)[j]? = some (.string x) := by
  unfold BL at h
  unfold SV
  rw [List.getElem?_map] at h ⊢
  cases hl : l[j]? with
  | none => rw [hl] at h; cases h
  | some y => rw [hl] at h; simp at h; rw [← h]; rfl
theorem SV_append (l r : List (List UInt8)) : SV (l ++ r) = SV l ++ SV r := List.map_append
theorem SV_DL (xs : List ByteArray) : SV (DL xs) = xs.map Value.string := by
  unfold SV DL
  rw [List.map_map]
  refine List.map_congr_left fun x _ => ?_
  show Value.string ⟨x.data.toList.toArray⟩ = _
  rw [bytes_eta]
theorem SV_BL (l : List (List UInt8)) : (BL l).map Value.string = SV l := by rw [← SV_DL, DL_BL]
theorem SV_snoc (l : List (List UInt8)) (a : ByteArray) : SV (l ++ [a.data.toList]) = SV l ++ [.string a] := by
  rw [SV_append]
  show _ ++ [Value.string ⟨a.data.toList.toArray⟩] = _
  rw [bytes_eta]
theorem DL_snoc (l : List ByteArray) (a : ByteArray) : DL (l ++ [a]) = DL l ++ [a.data.toList] := List.map_append

def Rd (w : World) (v : Value) (xs : List ByteArray) : Prop :=
  (xs = [] ∧ ∃ a c, v = .slice a 0 c) ∨
  (∃ b o c, v = .slice (some ⟨b, o, none⟩) xs.length c ∧ xs.length ≤ c ∧ b < w.heap.size ∧ ∀ (j : Nat) x, xs[j]? = some x → w.cell? ⟨b, o + j, none⟩ = some (.string x))
theorem Rd.below {w w' : World} {v : Value} {xs : List ByteArray} (h : Rd w v xs) (hb : Below w.heap.size w w') : Rd w' v xs := by
  rcases h with h | ⟨b, o, c, hv, hc, hlt, hcell⟩
  · exact .inl h
  · exact .inr ⟨b, o, c, hv, hc, Nat.lt_of_lt_of_le hlt hb.size, fun j x hj => (hb.cell (p := ⟨b, o + j, none⟩) hlt).trans (hcell j x hj)⟩
theorem Rd.shape {w : World} {v : Value} {xs : List ByteArray} (h : Rd w v xs) : ∃ a c, v = .slice a xs.length c := by
  rcases h with ⟨rfl, a, c, rfl⟩ | ⟨b, o, c, rfl, _⟩
  · exact ⟨a, c, rfl⟩
  · exact ⟨_, _, rfl⟩
/-- a row of strings of the call's own -/
def OwnS (w : World) (base : Nat) (v : Value) (l : List (List UInt8)) : Prop := w.ownsRow base 9 1 v l.length (SV l)
theorem rd_own {w : World} {base : Nat} {v : Value} {l : List (List UInt8)} (h : OwnS w base v l) : Rd w v (BL l) := by
  have h' : w.ownsRow base 9 1 v l.length (SV l) := h
  rcases h.2 with ⟨hv, hn⟩ | ⟨g, cap, cur, hv, hg, hh, hc, hm, hsz, htk⟩
  · exact .inl ⟨by rw [List.length_eq_zero_iff.1 hn]; rfl, none, 0, hv⟩
  · subst hv
    refine .inr ⟨g, 0, cap, by rw [BL_length], by rw [BL_length]; exact hc, lt_of_heap hh, fun j x hj => ?_⟩
    have hjl : j < l.length := by
      rcases Nat.lt_or_ge j l.length with k | k
      · exact k
      · rw [List.getElem?_eq_none (by rw [BL_length]; exact k)] at hj; cases hj
    rw [Nat.zero_add, h'.cellAt j (by omega), SV_at l j x hj]
theorem OwnS.nil (w : World) (base : Nat) : OwnS w base (.slice none 0 0) [] := World.ownsRow_nil _ _ _ _
theorem OwnS.ge {w : World} {base : Nat} {v : Value} {l : List (List UInt8)} (h : OwnS w base v l) : ∀ k, v.ownBlock = some k → base ≤ k := by
  intro k hk
  rcases h.2 with ⟨hv, _⟩ | ⟨g, cap, cur, hv, hg, _⟩
  · subst hv; cases hk
  · subst hv; cases hk; exact hg
theorem OwnS.shape {w : World} {base : Nat} {v : Value} {l : List (List UInt8)} (h : OwnS w base v l) : ∃ a c, v = .slice a l.length c := by
  rcases h.2 with ⟨hv, hn⟩ | ⟨g, cap, cur, hv, _⟩
  · exact ⟨_, _, by rw [hv, hn]⟩
  · exact ⟨_, _, hv⟩
theorem OwnS.stays {w w' : World} {base : Nat} {v : Value} {l : List (List UInt8)} (h : OwnS w base v l) (hb : Below w.heap.size w w') : OwnS w' base v l := by
  refine ⟨h.1, ?_⟩
  rcases h.2 with h | ⟨g, cap, cur, hv, hg, hh, r⟩
  · exact .inl h
  · exact .inr ⟨g, cap, cur, hv, hg, (hb.block g (lt_of_heap hh)).trans hh, r⟩
theorem OwnS.mono {w : World} {base base' : Nat} {v : Value} {l : List (List UInt8)} (h : OwnS w base v l) (hb : base' ≤ base) : OwnS w base' v l := by
  refine ⟨h.1, ?_⟩
  rcases h.2 with h | ⟨g, cap, cur, hv, hg, hh, r⟩
  · exact .inl h
  · exact .inr ⟨g, cap, cur, hv, Nat.le_trans hb hg, hh, r⟩
theorem OwnS.new (w : World) (l : List (List UInt8)) (hl : l.length * 16 ≤ 281474976710656) :
    OwnS (w.alloc (.cells (SV l).toArray 9)) w.heap.size (.slice (some ⟨w.heap.size, 0, none⟩) l.length l.length) l :=
  ⟨by rw [SV_length, Nat.mul_one], .inr ⟨w.heap.size, l.length, (SV l).toArray, rfl, Nat.le_refl _, heap_alloc_new _ _, Nat.le_refl _, by unfold maxLen; omega, by simp [SV_length], by rw [List.toList_toArray, Nat.mul_one]; exact List.take_of_length_le (Nat.le_of_eq (SV_length l))⟩⟩


/-- a row of truth values -/
def BoolR (w : World) (g N : Nat) (f : Nat → Bool) : Prop := ∃ cs : Array Value, w.heap[g]? = some (.cells cs 4 (0, 0)) ∧ cs.size = N ∧ ∀ k, k < N → cs[k]? = some (.bool (f k))
theorem BoolR.cell {w : World} {g N : Nat} {f : Nat → Bool} (h : BoolR w g N f) {k : Nat} (hk : k < N) : w.cell? ⟨g, k, none⟩ = some (.bool (f k)) := by
  obtain ⟨cs, h1, _, h2⟩ := h
  rw [cell_of_blk h1, h2 k hk]
theorem BoolR.free {w : World} {g N : Nat} {f : Nat → Bool} (h : BoolR w g N f) (k : Nat) : w.frozen? ⟨g, k, none⟩ = false := by
  obtain ⟨cs, h1, _⟩ := h
  exact free_of_blk h1 k
theorem BoolR.lt {w : World} {g N : Nat} {f : Nat → Bool} (h : BoolR w g N f) : g < w.heap.size := by
  obtain ⟨cs, h1, _⟩ := h
  exact lt_of_heap h1
theorem BoolR.set {w : World} {g N : Nat} {f f' : Nat → Bool} (h : BoolR w g N f) (k : Nat) (v : Bool) (hv : ∀ j, j < N → f' j = if j = k then v else f j) : BoolR (w.setCell ⟨g, k, none⟩ (.bool v)) g N f' := by
  obtain ⟨cs, h1, hs, h2⟩ := h
  refine ⟨_, heap_setCell_same _ _ _ _ _ _ h1, by simpa using hs, fun j hj => ?_⟩
  rw [Array.getElem?_setIfInBounds, hv j hj]
  by_cases e : k = j
  · subst e; rw [if_pos rfl, if_pos (by omega), if_pos rfl]
  · rw [if_neg e, if_neg (fun h => e h.symm), h2 j hj]
theorem BoolR.later {w w' : World} {g N : Nat} {f : Nat → Bool} (h : BoolR w g N f) (hb : Below w.heap.size w w') : BoolR w' g N f := by
  obtain ⟨cs, h1, h2⟩ := h
  exact ⟨cs, (hb.block g (lt_of_heap h1)).trans h1, h2⟩
theorem BoolR.to {w : World} {g N : Nat} {f f' : Nat → Bool} (h : BoolR w g N f) (e : ∀ j, j < N → f' j = f j) : BoolR w g N f' := by
  obtain ⟨cs, h1, h2, h3⟩ := h
  exact ⟨cs, h1, h2, fun k hk => by rw [e k hk]; exact h3 k hk⟩
theorem BoolR.made {w : World} {B g n : Nat} (h : w.ownsRow B 4 1 (.slice (some ⟨g, 0, none⟩) n n) n (madeCells (Value.bool false).cells (n * 1)).toList) : BoolR w g n fun _ => false := by
  rcases h.2 with ⟨hv, _⟩ | ⟨g', cap, cur, hv, hg, hh, hc, _, hsz, ht⟩
  · cases hv
  · cases hv
    have e : cur.toList = (madeCells (Value.bool false).cells (n * 1)).toList := by
      rw [← ht, List.take_of_length_le]
      rw [Array.length_toList, hsz]
      exact Nat.le_refl _
    rw [show (Value.bool false).cells = #[Value.bool false] from rfl, toList_madeCells_one] at e
    refine ⟨cur, hh, by rw [hsz, Nat.mul_one], fun k hk => ?_⟩
    rw [← Array.getElem?_toList, e, List.getElem?_replicate, if_pos (by omega)]

/-! ### what mark does, plainly -/
theorem runs_fine {ps : List Pg.Pi} : ∀ (ns : List (List UInt8)) (pl : List Nat), pl.Pairwise (· < ·) → Pg.Shut ps pl → (Pg.runs ps pl ns).Pairwise (· < ·) ∧ Pg.Shut ps (Pg.runs ps pl ns)
  | [], _, h1, h2 => ⟨h1, h2⟩
  | _ :: ns, _, h1, _ => runs_fine ns _ (Pg.step_rises h1) (Pg.step_shut h1)
theorem first_fine (ps : List Pg.Pi) : (Pg.first ps).Pairwise (· < ·) ∧ Pg.Shut ps (Pg.first ps) := by
  have e : Pg.first ps = Pg.run ps 0 := rfl
  rw [e]
  refine ⟨Pg.run_rises _ _, fun a ha => ?_⟩
  have h := Pg.mem_run.1 ha
  have e2 := Pg.up_in (ps := ps) a 0 (by omega)
  rw [Nat.zero_add] at e2
  have := Pg.up_le (ps := ps) (a := 0) (Nat.zero_le _)
  exact ⟨by omega, fun k k1 k2 => Pg.mem_run.2 ⟨by omega, by omega⟩⟩
theorem last_in {l : List Nat} {n k : Nat} (h1 : l.Pairwise (· < ·)) (h2 : ∀ a ∈ l, a ≤ n) (hk : l.getLast? = some k) : decide (k = n) = decide (n ∈ l) := by
  rw [decide_eq_decide]
  have hm := List.mem_of_getLast? hk
  constructor
  · intro e; rw [← e]; exact hm
  · intro hn
    have hk' := h2 k hm
    rcases Nat.lt_or_ge k n with hlt | hge
    · exfalso
      obtain ⟨i, hi, hin⟩ := List.getElem_of_mem hn
      have hl : l[l.length - 1]? = some k := by rw [← List.getLast?_eq_getElem?]; exact hk
      rcases Nat.lt_or_ge i (l.length - 1) with h | h
      · have := List.pairwise_iff_getElem.1 h1 i (l.length - 1) hi (by omega) h
        rw [List.getElem?_eq_getElem (by omega)] at hl
        have hl' := Option.some.inj hl
        omega
      · have hii : i = l.length - 1 := by omega
        subst hii
        rw [List.getElem?_eq_getElem hi] at hl
        have hl' := Option.some.inj hl
        omega
    · omega
/-- does a rule mean the first i + 1 names of a path? -/
def mns (ps : List Pg.Pi) (dirs dir : Bool) (ns : List (List UInt8)) (i : Nat) : Bool := Pg.M ps (ns.take (i + 1)) && ((dir || decide (i + 1 < ns.length)) || !dirs)
/-- which beginnings are ignored behind one more rule -/
def mrk (ps : List Pg.Pi) (dirs back dir : Bool) (ns : List (List UInt8)) (f : Nat → Bool) (i : Nat) : Bool := if mns ps dirs dir ns i = true then !back else f i
end Go.Proofs.YtfjhjhjdneihbaaGreatDoor
