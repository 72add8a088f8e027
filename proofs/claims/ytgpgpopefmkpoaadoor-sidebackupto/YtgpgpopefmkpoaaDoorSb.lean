/-
  Lists of strings and of changes as arguments, by their bulk; the program's Inline, with its errors.
-/
import Derived.Test.YtgpgpopefmkpoaaDoorS9
import Derived.Test.YtgpgpopefmkpoaaDoorC6
import Derived.Test.YtgpgpopefmkpoaaDoorC9
import Derived.Test.YtgpgpopefmkpoaaDoorD3
import Derived.SliceStrings
namespace Go.Proofs.YtgpgpopefmkpoaaDoor
open Go.RowKit Go.Deep Go.ChangeShapes Go.WideShapes Go.ChangeAt
open Ed (Ch Run Pr)

theorem open_strs {H : Type} {enc : TypeId × Value → H} {W : World} {v : Value} {d : DataW H} {p : List MemPlace}
    (hv : ∃ a len cap, v = .slice a len cap) (h : DataW.Trod enc Tryd.prog W 0 (fun _ => true) true 23 v d p) :
    ∃ xs : List ByteArray, RdT W v xs ∧ (∀ x ∈ xs, x.size ≤ maxLen) ∧ ((xs = [] ∧ d = .nil) ∨ ∃ sp, d = .slice (strs xs) sp) ∧ ArgS v := by
  obtain ⟨a0, len0, cap0, rfl⟩ := hv
  obtain ⟨fuel, hf⟩ := h
  have hcell : Tryd.prog.cellsOf 9 = 1 := by kernel_rfl
  rcases open_strings Tryd.underlying23 Tryd.underlying9 hcell hf with ⟨hcs, hx⟩ | ⟨a, len, cap, ss, hcs, _, hl, hm, hss, hx, hcl, hws⟩
  · simp [Value.cells] at hcs hx
    obtain ⟨rfl, rfl, rfl⟩ := hcs
    obtain ⟨rfl, rfl⟩ := hx
    exact ⟨[], .inl ⟨rfl, none, 0, rfl⟩, by simp, .inl ⟨rfl, rfl⟩, .inl rfl⟩
  · simp [Value.cells] at hcs hss
    obtain ⟨rfl, rfl, rfl⟩ := hcs
    obtain ⟨hd, hp⟩ := Prod.mk.inj hx
    refine ⟨ss.take len0, ?_, fun x hx => hws x (List.mem_of_mem_take hx), .inr ⟨_, hd⟩, .inr ⟨_, _, _, rfl⟩⟩
    by_cases h0 : len0 = 0
    · subst h0
      exact .inl ⟨by simp, some a, cap0, rfl⟩
    · obtain ⟨b, o, e, hb⟩ := addr_none4 (hcl 0 (by omega))
      obtain ⟨b', o', rfl⟩ : ∃ b' o', a = ⟨b', o', none⟩ := by
        obtain ⟨b', o', s'⟩ := a
        have : s' = none := by
          have := congrArg Addr.spot e
          simpa [Addr.add] using this
        exact ⟨b', o', by rw [this]⟩
      have hb' : b' < W.heap.size := by
        have := congrArg Addr.block e
        simp [Addr.add] at this
        omega
      have hlen : (ss.take len0).length = len0 := by rw [List.length_take]; omega
      refine .inr ⟨b', o', cap0, by rw [hlen], by rw [hlen]; exact hl, hb', fun j u hj => ?_⟩
      unfold stC at hj
      rw [List.getElem?_map] at hj
      cases hx : (ss.take len0)[j]? with
      | none => rw [hx] at hj; cases hj
      | some x =>
        rw [hx] at hj
        simp at hj
        subst hj
        have hj' : j < len0 := by
          rcases Nat.lt_or_ge j len0 with k | k
          · exact k
          · rw [List.getElem?_eq_none (by rw [hlen]; exact k)] at hx; cases hx
        have := hcl j (by omega)
        rw [List.getElem?_take, if_pos hj'] at hx
        rw [List.getD_eq_getElem?_getD, hx] at this
        rw [Go.WideShapes.add_plain] at this
        exact this

theorem strs_length {H : Type} (xs : List ByteArray) : (strs (H := H) xs).length = xs.length := by
  induction xs with
  | nil => rfl
  | cons x r ih => show (_ :: strs r).length = _; rw [List.length_cons, List.length_cons, ih]
theorem bulk_pos {H : Type} (d : DataW H) : 1 ≤ Rows.uptoBulk d := by
  cases d with
  | lit l => cases l <;> simp [Rows.uptoBulk]
  | _ => simp [Rows.uptoBulk]
theorem bulk_len {H : Type} : ∀ l : List (DataW H), l.length ≤ Rows.uptoBulkAll l
  | [] => by simp
  | d :: r => by
    have h1 := bulk_pos d
    have h2 := bulk_len r
    simp only [Rows.uptoBulkAll, List.length_cons]
    omega
theorem chs_bulk {H : Type} {d : DataW H} {l : List Ch} (hx : (l = [] ∧ d = .nil) ∨ ∃ (D : Nat → DataW H) (sp : List (DataW H)), d = .slice ((List.range l.length).map D) sp) : l.length ≤ Rows.uptoBulk d := by
  rcases hx with ⟨rfl, _⟩ | ⟨D, sp, rfl⟩
  · simp
  · have h := bulk_len ((List.range l.length).map D)
    rw [List.length_map, List.length_range] at h
    simp only [Rows.uptoBulk]
    omega
theorem strs_bulkA {H : Type} (xs : List ByteArray) : xs.length + (flatB xs).length ≤ Rows.uptoBulkAll (strs (H := H) xs) := by
  induction xs with
  | nil => exact Nat.zero_le _
  | cons x r ih =>
    show (r.length + 1) + (x.data.toList ++ flatB r).length ≤ Rows.uptoBulk (DataW.lit (H := H) (.string x.data.toList)) + Rows.uptoBulkAll (strs (H := H) r)
    simp only [Rows.uptoBulk, List.length_append]
    omega
theorem strs_bulk {H : Type} {d : DataW H} {xs : List ByteArray} (hx : (xs = [] ∧ d = .nil) ∨ ∃ sp, d = .slice (strs xs) sp) : xs.length + (flatB xs).length ≤ Rows.uptoBulk d := by
  rcases hx with ⟨rfl, _⟩ | ⟨sp, rfl⟩
  · exact Nat.zero_le _
  · have h := strs_bulkA (H := H) xs
    simp only [Rows.uptoBulk]
    omega
theorem strs_each_up {H : Type} {d : DataW H} {xs : List ByteArray} (hx : (xs = [] ∧ d = .nil) ∨ ∃ sp, d = .slice (strs xs) sp) (hb : Rows.uptoBulk d ≤ 1048576) : xs.length ≤ 1048576 := by
  have := strs_bulk hx
  omega

/-! ### how long the marked text is -/
theorem markB_ub (o c : Sd.Bs) (L : List ByteArray) : (markB o L c).length ≤ o.length + (flatB L).length + c.length := by
  unfold markB
  split
  · simp
  · simp; omega
theorem inlP_le (A B : List ByteArray) : ∀ (s : List Ch) (k : Nat), (inlP A B s k).length ≤ (s.length + 1) * (2 * (flatB B).length + (flatB A).length + 8)
  | [], k => by
    have h := flat_part B k B.length
    show (flatB (part B k B.length)).length ≤ (0 + 1) * _
    rw [Nat.zero_add, Nat.one_mul]
    omega
  | c :: r, k => by
    have h1 := flat_part B k c.b.toNat
    have h2 := flat_part A c.a.toNat (c.a + c.n).toNat
    have h3 := flat_part B c.b.toNat (c.b + c.m).toNat
    have h4 := markB_ub [91, 45] [45, 93] (part A c.a.toNat (c.a + c.n).toNat)
    have h5 := markB_ub [123, 43] [43, 125] (part B c.b.toNat (c.b + c.m).toNat)
    have h6 := inlP_le A B r (c.b + c.m).toNat
    show (flatB (part B k c.b.toNat) ++ (markB [91, 45] (part A c.a.toNat (c.a + c.n).toNat) [45, 93] ++ (markB [123, 43] (part B c.b.toNat (c.b + c.m).toNat) [43, 125] ++ inlP A B r (c.b + c.m).toNat))).length ≤ (r.length + 1 + 1) * _
    rw [List.length_append, List.length_append, List.length_append, Nat.succ_mul]
    simp only [List.length_cons, List.length_nil] at h4 h5
    omega
theorem inl_small {s : List Ch} {A B : List ByteArray} (h0 : Ed.validN s A.length B.length = 0) (ha : (flatB A).length ≤ 1048576) (hb : (flatB B).length ≤ 1048576) : (inlP A B (Ed.normal s A.length B.length) 0).length + (flatB A).length + (flatB B).length + 8 ≤ 35184372088832 := by
  have hnl := Val_len (Ed.normal_Val (Ed.validN_zero.1 h0)).1
  have h1 := inlP_le A B (Ed.normal s A.length B.length) 0
  have h2 := Nat.mul_le_mul (show (Ed.normal s A.length B.length).length + 1 ≤ 8388609 by omega) (show 2 * (flatB B).length + (flatB A).length + 8 ≤ 3145736 by omega)
  have h3 := Nat.le_trans h1 h2
  omega

/-! ### the program's Inline -/
set_option maxHeartbeats 4000000 in
theorem inline_bad {vs va vb : Value} {s : List Ch} {A Bl : List ByteArray} {w : World} (hs : RdC w vs s) (hwf : ∀ c ∈ s, WfC c) (hl : s.length ≤ 10000000000000) (ha : RdT w va A) (hb : RdT w vb Bl) (hk : Ed.validN s A.length Bl.length ≠ 0) :
    Calls Tryd.prog 19 #[vs, va, vb] w fun e w' => e = .returned (.tuple #[.string ⟨#[]⟩, errV (Ed.validN s A.length Bl.length)]) ∧ Below w.heap.size w w' := by
  have HN := hid (normal_all (n := A.length) (m := Bl.length) hs hwf hl)
  obtain ⟨s0, c0, rfl⟩ := hs.shape
  obtain ⟨aa, ca, rfl⟩ := ha.shape
  obtain ⟨ab, cb, rfl⟩ := hb.shape
  generalize nrmA s A.length Bl.length = S at HN
  generalize Ed.validN s A.length Bl.length = k at HN hk ⊢
  have he : errV k = .iface 55 (.int .i64 k) := by unfold errV; rw [if_neg hk]
  rw [he] at HN ⊢
  generalize A.length = n at HN ⊢
  generalize Bl.length = m at HN ⊢
  clear hs hwf hl ha hb he
  go_enter Tryd.func19, Tryd.ntmps19
  go_wp2_with fail
  refine HN.out.mono ?_
  rintro e w1 ⟨v1, rfl, hO, hb1⟩
  have HB1 := hid hb1
  obtain ⟨a1, c1, rfl⟩ := own_shape hO
  clear hO hb1
  go_wp2_with fail
  go_ret2
  exact ⟨rfl, HB1.out⟩
theorem inline_all {vs va vb : Value} {s : List Ch} {A Bl : List ByteArray} {w : World} (hs : RdC w vs s) (hwf : ∀ c ∈ s, WfC c) (hl : s.length ≤ 10000000000000) (ha : RdT w va A) (hb : RdT w vb Bl)
    (hT : Ed.validN s A.length Bl.length = 0 → (inlP A Bl (Ed.normal s A.length Bl.length) 0).length + (flatB A).length + (flatB Bl).length + 8 ≤ 35184372088832) :
    Calls Tryd.prog 19 #[vs, va, vb] w fun e w' => e = .returned (.tuple #[.string (inlS s A Bl), errV (Ed.validN s A.length Bl.length)]) ∧ Below w.heap.size w w' := by
  by_cases h0 : Ed.validN s A.length Bl.length = 0
  · have e1 : inlS s A Bl = bB (inlP A Bl (Ed.normal s A.length Bl.length) 0) := by unfold inlS; rw [if_pos h0]
    rw [e1, h0, errV_zero]
    have := hT h0
    exact inline_any hs hwf (Ed.validN_zero.1 h0) ha hb (by omega)
  · have e1 : inlS s A Bl = ⟨#[]⟩ := by unfold inlS; rw [if_neg h0]
    rw [e1]
    exact inline_bad hs hwf hl ha hb h0
end Go.Proofs.YtgpgpopefmkpoaaDoor
