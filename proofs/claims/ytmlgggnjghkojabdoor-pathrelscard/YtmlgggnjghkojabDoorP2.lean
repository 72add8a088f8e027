/-
  The walks of Name, names, Parts and Join of the program: for every string, and for every list of strings that reads so.
-/
import Derived.Test.YtmlgggnjghkojabDoorP1
namespace Go.Proofs.YtmlgggnjghkojabDoor
open Go.RowKit

/-- an error by its number; 0: none -/
def errV (n : Nat) : Value := if n = 0 then .nilIface else .iface 41 (.int .i64 n)
theorem errV_zero : errV 0 = .nilIface := rfl
/-- internal/bytealg.MaxLen holds some number -/
def MaxVar (w : World) : Prop := ∃ m, w.cell? ⟨1, 0, none⟩ = some (.int .i64 m)
theorem MaxVar.below {w w' : World} (h : MaxVar w) (hb : Below w.heap.size w w') : MaxVar w' := by
  obtain ⟨m, hm⟩ := h
  refine ⟨m, ?_⟩
  rw [hb.cell (p := ⟨1, 0, none⟩) ?_]
  · exact hm
  · rcases Nat.lt_or_ge 1 w.heap.size with k | k
    · exact k
    · have : w.heap[1]? = none := Array.getElem?_eq_none k
      simp [World.cell?, this] at hm

/-! ### slices that read as strings -/
def Rd (w : World) (v : Value) (xs : List ByteArray) : Prop :=
  (xs = [] ∧ ∃ a c, v = .slice a 0 c) ∨
  (∃ b o c, v = .slice (some ⟨b, o, none⟩) xs.length c ∧ xs.length ≤ c ∧ b < w.heap.size ∧ ∀ (j : Nat) x, xs[j]? = some x → w.cell? ⟨b, o + j, none⟩ = some (.string x))
theorem Rd.below {w w' : World} {v : Value} {xs : List ByteArray} (h : Rd w v xs) (hb : Below w.heap.size w w') : Rd w' v xs := by
  rcases h with h | ⟨b, o, c, hv, hc, hlt, hcell⟩
  · exact .inl h
  · exact .inr ⟨b, o, c, hv, hc, Nat.lt_of_lt_of_le hlt hb.size, fun j x hj => (hb.cell (p := ⟨b, o + j, none⟩) hlt).trans (hcell j x hj)⟩
theorem Rd.shape {w : World} {v : Value} {xs : List ByteArray} (h : Rd w v xs) : ∃ a c, v = .slice a xs.length c := by
  rcases h with ⟨rfl, a, c, rfl⟩ | ⟨b, o, c, rfl, _⟩
  · exact ⟨a, c, rfl⟩
  · exact ⟨_, _, rfl⟩
theorem lt_of_heap {w : World} {g : Nat} {o : Obj} (h : w.heap[g]? = some o) : g < w.heap.size := by
  rcases Nat.lt_or_ge g w.heap.size with k | k
  · exact k
  · rw [Array.getElem?_eq_none k] at h; cases h

/-- a row of strings of the call's own -/
def OwnS (w : World) (base : Nat) (v : Value) (l : List (List UInt8)) : Prop := w.ownsRow base 9 1 v l.length (SV l)
theorem rd_own {w : World} {base : Nat} {v : Value} {l : List (List UInt8)} (h : OwnS w base v l) : Rd w v (BL l) := by
  have h' : w.ownsRow base 9 1 v l.length (SV l) := h
  rcases h.2 with ⟨hv, hn⟩ | ⟨g, cap, cur, hv, hg, hh, hc, hm, hsz, htk⟩
  · exact .inl ⟨by rw [List.length_eq_zero_iff.1 hn]; rfl, none, 0, hv⟩
  · subst hv
    refine .inr ⟨g, 0, cap, by rw [BL_length], by rw [BL_length]; exact hc, lt_of_heap hh, fun j x hj => ?_⟩
    have hjl : j < l.length := by
      rcases Nat.lt_or_ge j l.length with k | k
      · exact k
      · rw [List.getElem?_eq_none (by rw [BL_length]; exact k)] at hj; cases hj
    rw [Nat.zero_add, h'.cellAt j (by omega), SV_at l j x hj]
theorem OwnS.nil (w : World) (base : Nat) : OwnS w base (.slice none 0 0) [] := World.ownsRow_nil _ _ _ _
theorem OwnS.ge {w : World} {base : Nat} {v : Value} {l : List (List UInt8)} (h : OwnS w base v l) : ∀ k, v.ownBlock = some k → base ≤ k := by
  intro k hk
  rcases h.2 with ⟨hv, _⟩ | ⟨g, cap, cur, hv, hg, _⟩
  · subst hv; cases hk
  · subst hv; cases hk; exact hg
theorem OwnS.shape {w : World} {base : Nat} {v : Value} {l : List (List UInt8)} (h : OwnS w base v l) : ∃ a c, v = .slice a l.length c := by
  rcases h.2 with ⟨hv, hn⟩ | ⟨g, cap, cur, hv, _⟩
  · exact ⟨_, _, by rw [hv, hn]⟩
  · exact ⟨_, _, hv⟩
theorem OwnS.stays {w w' : World} {base : Nat} {v : Value} {l : List (List UInt8)} (h : OwnS w base v l) (hb : Below w.heap.size w w') : OwnS w' base v l := by
  refine ⟨h.1, ?_⟩
  rcases h.2 with h | ⟨g, cap, cur, hv, hg, hh, r⟩
  · exact .inl h
  · exact .inr ⟨g, cap, cur, hv, hg, (hb.block g (lt_of_heap hh)).trans hh, r⟩
theorem OwnS.mono {w : World} {base base' : Nat} {v : Value} {l : List (List UInt8)} (h : OwnS w base v l) (hb : base' ≤ base) : OwnS w base' v l := by
  refine ⟨h.1, ?_⟩
  rcases h.2 with h | ⟨g, cap, cur, hv, hg, hh, r⟩
  · exact .inl h
  · exact .inr ⟨g, cap, cur, hv, Nat.le_trans hb hg, hh, r⟩
theorem OwnS.new (w : World) (l : List (List UInt8)) (hl : l.length * 16 ≤ 281474976710656) :
    OwnS (w.alloc (.cells (SV l).toArray 9)) w.heap.size (.slice (some ⟨w.heap.size, 0, none⟩) l.length l.length) l :=
  ⟨by rw [SV_length, Nat.mul_one], .inr ⟨w.heap.size, l.length, (SV l).toArray, rfl, Nat.le_refl _, heap_alloc_new _ _, Nat.le_refl _, by unfold maxLen; omega, by simp [SV_length], by rw [List.toList_toArray, Nat.mul_one]; exact List.take_of_length_le (Nat.le_of_eq (SV_length l))⟩⟩

/-! ### Name -/
theorem name_bad {l : List UInt8} (h : Pp.bad l = true) : Pp.nameN l = 30 := by unfold Pp.nameN; rw [h]; rfl
theorem name_good {l : List UInt8} (h : Pp.bad l = false) : Pp.nameN l = 0 := by unfold Pp.nameN; rw [h]; rfl
theorem bad_size {s : ByteArray} (h : s.size = 0 ∨ 255 < s.size) : Pp.bad s.data.toList = true := by
  unfold Pp.bad
  rcases h with h | h
  · rw [nil_data s h]; rfl
  · have : decide (255 < s.data.toList.length) = true := decide_eq_true (by rw [size_data]; exact h)
    rw [this]; simp
theorem bad_dots {s : ByteArray} (h : s.data.toList = [46] ∨ s.data.toList = [46, 46]) : Pp.bad s.data.toList = true := by
  rcases h with h | h <;> rw [h] <;> decide
theorem bad_rest {s : ByteArray} (h0 : s.size ≠ 0) (h1 : ¬ 255 < s.size) (h2 : s.data.toList ≠ [46]) (h3 : s.data.toList ≠ [46, 46]) : Pp.bad s.data.toList = s.data.toList.any fun c => c == 47 || c == 0 := by
  unfold Pp.bad
  have e0 : s.data.toList.isEmpty = false := by
    cases hl : s.data.toList with
    | nil => exact absurd (data_nil s hl) h0
    | cons _ _ => rfl
  have e1 : decide (255 < s.data.toList.length) = false := decide_eq_false (by rw [size_data]; exact h1)
  have e2 : (s.data.toList == [46]) = false := beq_eq_false_iff_ne.2 h2
  have e3 : (s.data.toList == [46, 46]) = false := beq_eq_false_iff_ne.2 h3
  rw [e0, e1, e2, e3]
  rfl

set_option maxHeartbeats 1000000 in
theorem name_any (s : ByteArray) (w : World) :
    Calls Tryd.prog 32 #[.string s] w fun e w' => e = .returned (errV (Pp.nameN s.data.toList)) ∧ Below w.heap.size w w' := by
  by_cases h0 : s.size = 0
  · have HB := hid (name_bad (bad_size (.inl h0)))
    have t0 := empty_yes s h0
    clear h0
    go_enter Tryd.func32, Tryd.ntmps32
    go_wp2
    go_ret
    exact ⟨by rw [HB.out]; rfl, Below.refl _ _⟩
  · have t0 := empty_no s h0
    by_cases h1 : 255 < s.size
    · have HB := hid (name_bad (bad_size (.inr h1)))
      go_enter Tryd.func32, Tryd.ntmps32
      go_wp2
      go_ret
      exact ⟨by rw [HB.out]; rfl, Below.refl _ _⟩
    · have ed := ByteArray.toList_eq s
      by_cases h2 : s.data.toList = [46]
      · have HB := hid (name_bad (bad_dots (.inl h2)))
        have d1 : s.toList = [46] := ed.trans h2
        clear h2 ed
        go_enter Tryd.func32, Tryd.ntmps32
        go_wp2
        go_ret
        exact ⟨by rw [HB.out]; rfl, Below.refl _ _⟩
      · have d1 : ¬ s.toList = [46] := fun x => h2 (ed.symm.trans x)
        by_cases h3 : s.data.toList = [46, 46]
        · have HB := hid (name_bad (bad_dots (.inr h3)))
          have d2 : s.toList = [46, 46] := ed.trans h3
          clear h2 h3 ed d1
          have d1 : ¬ s.toList = [46] := by rw [d2]; decide
          go_enter Tryd.func32, Tryd.ntmps32
          go_wp2
          go_ret
          exact ⟨by rw [HB.out]; rfl, Below.refl _ _⟩
        · have d2 : ¬ s.toList = [46, 46] := fun x => h3 (ed.symm.trans x)
          have HB := hid (bad_rest h0 h1 h2 h3)
          clear h2 h3 h0 ed
          go_enter Tryd.func32, Tryd.ntmps32
          go_wp2_with fail
          refine (containsAny_two s _ (by omega)).mono ?_
          rintro e w' ⟨rfl, hb⟩
          cases ha : (s.data.toList.any fun c => c == 47 || c == 0) with
          | true =>
            have HN := hid (name_bad (HB.out.trans ha))
            clear HB ha
            go_wp2
            go_ret
            exact ⟨by rw [HN.out]; rfl, hb⟩
          | false =>
            have HN := hid (name_good (HB.out.trans ha))
            have b1 : (s.toList == [46]) = false := beq_eq_false_iff_ne.2 d1
            have b2 : (s.toList == [46, 46]) = false := beq_eq_false_iff_ne.2 d2
            have b3 : decide ((255 : Int) < (s.size : Int)) = false := decide_eq_false (by omega)
            clear HB ha
            go_wp2
            go_ret
            exact ⟨by rw [HN.out]; rfl, hb⟩

/-! ### names -/
theorem names_hit {xs : List ByteArray} {k : Nat} {x : ByteArray} (hx : xs[k]? = some x) (h : Pp.nameN x.data.toList ≠ 0) : Pp.namesN (DL xs) = Pp.nameN x.data.toList := by
  unfold Pp.namesN
  have hb : Pp.bad x.data.toList = true := by
    cases hb : Pp.bad x.data.toList with
    | true => rfl
    | false => exact absurd (name_good hb) h
  have hm : x.data.toList ∈ DL xs := List.mem_map.2 ⟨x, List.mem_of_getElem? hx, rfl⟩
  rw [if_pos (List.any_eq_true.2 ⟨_, hm, hb⟩), name_bad hb]
theorem names_snoc {xs : List ByteArray} {k : Nat} {x : ByteArray} (hx : xs[k]? = some x) (h : Pp.nameN x.data.toList = 0) (ha : ((DL xs).take k).any Pp.bad = false) : ((DL xs).take (k + 1)).any Pp.bad = false := by
  have e : (DL xs)[k]? = some x.data.toList := by unfold DL; rw [List.getElem?_map, hx]; rfl
  rw [List.take_add_one, e, List.any_append, ha]
  have hb : Pp.bad x.data.toList = false := by
    cases hb : Pp.bad x.data.toList with
    | true => rw [name_bad hb] at h; cases h
    | false => rfl
  simp [hb]
theorem names_last {xs : List ByteArray} {k : Nat} (h : xs.length ≤ k) (ha : ((DL xs).take k).any Pp.bad = false) : Pp.namesN (DL xs) = 0 := by
  rw [List.take_of_length_le (by rw [DL_length]; exact h)] at ha
  unfold Pp.namesN
  rw [ha]; rfl
theorem errV_pos {n : Nat} (h : n ≠ 0) : errV n = .iface 41 (.int .i64 n) := by unfold errV; rw [if_neg h]

set_option maxHeartbeats 400000 in
theorem names_none (a : Option Addr) (c : Nat) (w : World) :
    Calls Tryd.prog 24 #[.slice a 0 c] w fun e w' => e = .returned (errV (Pp.namesN [])) ∧ Below w.heap.size w w' := by
  go_enter Tryd.func24, Tryd.ntmps24
  go_wp2
  refine wp_loop_rounds 1 ?_
  rw [rounds_succ]
  go_wp2
  go_ret
  exact ⟨rfl, Below.refl _ _⟩

set_option maxHeartbeats 1000000 in
theorem names_some (b o c : Nat) (xs : List ByteArray) (w : World) (hX : ∀ (j : Nat) x, xs[j]? = some x → w.cell? ⟨b, o + j, none⟩ = some (.string x)) (hb : b < w.heap.size) (hn : xs.length ≤ 140737488355328) :
    Calls Tryd.prog 24 #[.slice (some ⟨b, o, none⟩) xs.length c] w fun e w' => e = .returned (errV (Pp.namesN (DL xs))) ∧ Below w.heap.size w w' := by
  have HX := hid hX
  clear hX
  go_enter Tryd.func24, Tryd.ntmps24
  go_wp2
  go_loopw [4, 5, 8] (fun _ _ i wr => ∃ k : Nat, k ≤ xs.length ∧ i = .int .i64 k ∧ Below w.heap.size w wr ∧ Hid (((DL xs).take k).any Pp.bad = false)) (fun _ _ i _ => xs.length - (intOf i).toNat)
  case atStart => exact ⟨0, Nat.zero_le _, rfl, Below.refl _ _, (rfl : ((DL xs).take 0).any Pp.bad = false)⟩
  case round =>
    obtain ⟨k, hk, rfl, hB, HT⟩ := hrel
    by_cases hlt : k < xs.length
    · obtain ⟨x, hx⟩ : ∃ x, xs[k]? = some x := ⟨_, List.getElem?_eq_getElem hlt⟩
      have cx : wr.cell? ⟨b, o + k, none⟩ = some (.string x) := (hB.cell (p := ⟨b, o + k, none⟩) hb).trans (HX.out k x hx)
      have Hx := hid hx
      clear hx
      go_wp2_with fail
      refine (name_any x _).mono ?_
      rintro e w1 ⟨rfl, hb1⟩
      have hB1 := hB.trans (hb1.mono hB.size)
      by_cases hz : Pp.nameN x.data.toList = 0
      · have HS := hid (names_snoc Hx.out hz HT.out)
        rw [hz, errV_zero]
        clear hz
        go_wp2
        go_roundw
        case rel => exact ⟨k + 1, by omega, by go_num, hB1, HS⟩
        case measure => simp [intOf]; omega
      · have HS := hid (names_hit Hx.out hz)
        have HE := hid (errV_pos hz)
        rw [HE.out]
        clear hz
        go_wp2
        go_ret
        exact ⟨by rw [HS.out, HE.out]; rfl, hB1⟩
    · have HS := hid (names_last (by omega) HT.out)
      go_wp2
      go_ret
      exact ⟨by rw [HS.out]; rfl, hB⟩

theorem names_rd {w : World} {v : Value} {xs : List ByteArray} (h : Rd w v xs) (hn : xs.length ≤ 140737488355328) :
    Calls Tryd.prog 24 #[v] w fun e w' => e = .returned (errV (Pp.namesN (DL xs))) ∧ Below w.heap.size w w' := by
  rcases h with ⟨rfl, a, c, rfl⟩ | ⟨b, o, c, rfl, hc, hb, hX⟩
  · exact names_none a c w
  · exact names_some b o c xs w hX hb hn
end Go.Proofs.YtmlgggnjghkojabDoor
