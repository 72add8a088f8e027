/-
  Several texts in one: U6, U7, U8, U9, XSplitRef, Va, Vb, Vc, Vd.
-/
import Derived.Test.YtkolgglllladfaaGreatDoorGrUz
import Derived.Test.YtkolgglllladfaaGreatDoorGrXq
import Derived.Test.YtkolgglllladfaaGreatDoorGrJ6
import Derived.Test.YtkolgglllladfaaGreatDoorGrX
import Derived.Laws.OwnMore
import Derived.Test.YtkolgglllladfaaGreatDoorGrKK
import Derived.Deep.RegionHeld3
/-
  The document's Behind and Number (layer 11).
-/
namespace Go.Proofs.YtkolgglllladfaaGreatDoor
open Go.RowKit

theorem wrap8 {n : Int} (h1 : 0 ≤ n) (h2 : n ≤ 255) : IntKind.u8.wrap n = n := by
  rw [IntKind.wrap_u8]; omega
theorem pre_take {p s : Un.Bs} (he : s.take p.length = p) : Un.pre p s = some (s.drop p.length) := by
  rw [Un.pre_some]
  calc s = s.take p.length ++ s.drop p.length := (List.take_append_drop _ _).symm
    _ = p ++ s.drop p.length := by rw [he]
theorem pre_not {p s : Un.Bs} (h : s.take p.length ≠ p) : Un.pre p s = none := by
  cases hp : Un.pre p s with
  | none => rfl
  | some r => exact absurd (by rw [Un.pre_some.1 hp, List.take_left]) h
theorem dropE (x : ByteArray) (k : Nat) : x.extract k x.size = bB (x.data.toList.drop k) := by
  apply ba_ext
  rw [bB_data]
  exact Lib.extract_to_end _ _
theorem ba_no {x y : ByteArray} (h : x ≠ y) : (x == y) = false := by
  cases hb : (x == y) with
  | false => rfl
  | true =>
    exfalso
    apply h
    cases x with | mk a => cases y with | mk b =>
    have : (a == b) = true := hb
    rw [eq_of_beq this]
/-- what is behind a beginning -/
def behB (p s : Un.Bs) : Value := .tuple #[.string (bB ((Un.pre p s).getD [])), .bool (Un.pre p s).isSome]
theorem val_snoc (l : Un.Bs) (c : UInt8) : Un.val (l ++ [c]) = Un.val l * 10 + (c.toNat - 48) := by unfold Un.val; rw [List.foldl_append]; rfl
def cap (n : Nat) : Nat := min n 2147483648
theorem cap_le (n : Nat) : cap n ≤ 2147483648 := Nat.min_le_right _ _
theorem cap_step (v d : Nat) : min (cap v * 10 + d) 2147483648 = cap (v * 10 + d) := by unfold cap; omega
theorem num_stop {s : Un.Bs} {k : Nat} (h : (s.take k).all Un.dg = true) (hs : ∀ c, (s.drop k).head? = some c → Un.dg c = false) : s.takeWhile Un.dg = s.take k ∧ s.dropWhile Un.dg = s.drop k := by
  have := Un.all_tw h (s.drop k) hs
  rwa [List.take_append_drop] at this
/-- what Number answers: of a text where there is no number, its two other answers are some ones -/
def NumAns (s : Un.Bs) (e : Ending) : Prop := ∃ (n : Nat) (r : Un.Bs), e = .returned (.tuple #[.int .i64 n, .string (bB r), .bool (Un.numD s).isSome]) ∧ n ≤ 2147483648 ∧ r.length ≤ s.length ∧ ∀ p, Un.numD s = some p → n = p.1 ∧ r = p.2
theorem numAns {s : Un.Bs} {k : Nat} (h : (s.take k).all Un.dg = true) (hk : k ≤ s.length) (hs : ∀ c, (s.drop k).head? = some c → Un.dg c = false) {e : Ending}
    (he : e = .returned (.tuple #[.int .i64 (cap (Un.val (s.take k)) : Nat), .string (bB (s.drop k)), .bool (decide (0 < k) && decide (cap (Un.val (s.take k)) ≤ 2147483647))])) : NumAns s e := by
  obtain ⟨e1, e2⟩ := num_stop h hs
  have hl : (s.take k).length = k := by rw [List.length_take]; omega
  have hb : (Un.numD s).isSome = (decide (0 < k) && decide (cap (Un.val (s.take k)) ≤ 2147483647)) := by
    unfold Un.numD
    rw [e1, e2]
    by_cases h0 : 0 < k
    · have hne : s.take k ≠ [] := fun e => by rw [e] at hl; simp at hl; omega
      by_cases h1 : Un.val (s.take k) ≤ 2147483647
      · rw [if_pos ⟨hne, h1⟩, decide_eq_true h0, decide_eq_true (show cap _ ≤ _ by unfold cap; omega)]; rfl
      · rw [if_neg (fun q => h1 q.2), decide_eq_true h0, decide_eq_false (show ¬ cap _ ≤ _ by unfold cap; omega)]; rfl
    · have h00 : k = 0 := by omega
      rw [h00, if_neg (fun q => q.1 rfl)]; rfl
  refine ⟨cap (Un.val (s.take k)), s.drop k, ?_, cap_le _, ?_, ?_⟩
  · rw [hb]; exact he
  · rw [List.length_drop]; omega
  · intro p hp
    unfold Un.numD at hp
    rw [e1, e2] at hp
    split at hp
    · rename_i hq
      cases hp
      exact ⟨by unfold cap; omega, rfl⟩
    · cases hp
end Go.Proofs.YtkolgglllladfaaGreatDoor
/-
  The document's spanned and Lines (layer 11).
-/
namespace Go.Proofs.YtkolgglllladfaaGreatDoor
open Go.RowKit

theorem bB_size (l : Un.Bs) : (bB l).size = l.length := by rw [← dsize, bB_data]
/-- what spanned answers: where there is no range, three of its answers are some ones -/
def SpAns (s : Un.Bs) (e : Ending) : Prop := ∃ (a n : Nat) (r : Un.Bs), e = .returned (.tuple #[.int .i64 a, .int .i64 n, .string (bB r), .bool (Un.spD s).isSome]) ∧ a ≤ 2147483648 ∧ n ≤ 2147483648 ∧ r.length ≤ s.length ∧ ∀ p, Un.spD s = some p → a = p.1 ∧ n = p.2.1 ∧ r = p.2.2
end Go.Proofs.YtkolgglllladfaaGreatDoor
/-
  The document's Header (layer 11).
-/
namespace Go.Proofs.YtkolgglllladfaaGreatDoor
open Go.RowKit

def nmV : Option (Un.Bs × Un.Bs) → Value
  | none => .agg #[.string ⟨#[]⟩, .string ⟨#[]⟩]
  | some (a, s) => .agg #[.string (bB a), .string (bB s)]
def hdrV (o : Option (Un.Bs × Un.Bs)) : Value := .tuple #[nmV o, .bool o.isSome]
theorem stmp_nil {a : Un.Bs} {y : ByteArray} (h : y.size = 0) : Un.stmp a y.data.toList = some (a, []) := by
  rw [show y.data.toList = [] from List.length_eq_zero_iff.1 (by rw [dsize]; exact h)]; rfl
theorem stmp_tab {a : Un.Bs} {y : ByteArray} (h : 0 < y.size) (h9 : y[0].toNat = 9) : Un.stmp a y.data.toList = some (a, y.data.toList.drop 1) := by
  have e := Cx.drop_head y 0 h
  rw [List.drop_zero] at e
  rw [e]
  unfold Un.stmp
  simp only []
  rw [if_pos (UInt8.toNat_inj.1 h9)]
  rfl
theorem stmp_no {a : Un.Bs} {y : ByteArray} (h : 0 < y.size) (h9 : y[0].toNat ≠ 9) : Un.stmp a y.data.toList = none := by
  have e := Cx.drop_head y 0 h
  rw [List.drop_zero] at e
  rw [e]
  unfold Un.stmp
  simp only []
  rw [if_neg (fun e => h9 (by rw [e]; rfl))]
theorem hdrD_no {m x : Un.Bs} (h : Un.pre m x = none) : Un.hdrD m x = none := by unfold Un.hdrD; rw [h]
theorem hdrD_un {m x t : Un.Bs} (h : Un.pre m x = some t) (hu : Pq.unq t = none) : Un.hdrD m x = none := by unfold Un.hdrD; rw [h]; simp only []; rw [hu]
theorem hdrD_yes {m x t a r : Un.Bs} (h : Un.pre m x = some t) (hu : Pq.unq t = some (a, r)) : Un.hdrD m x = Un.stmp a (Un.bare r) := by unfold Un.hdrD; rw [h]; simp only []; rw [hu]
theorem emptyB {y : ByteArray} (h : y.size = 0) : (y.toList == []) = true := by
  rw [str_eq, decide_eq_true]
  exact List.length_eq_zero_iff.1 (by rw [dsize]; exact h)
theorem fullB {y : ByteArray} (h : 0 < y.size) : (y.toList == []) = false := by
  rw [str_eq, decide_eq_false]
  intro e
  have := congrArg List.length e
  rw [dsize] at this
  have h2 : y.size = 0 := this
  omega
end Go.Proofs.YtkolgglllladfaaGreatDoor
/-
  The document's head: a hunk's first line (layer 11). (Made by wip/genu9.py.)
-/
namespace Go.Proofs.YtkolgglllladfaaGreatDoor
open Go.RowKit

theorem alloc_size (w : World) (o : Obj) : (w.alloc o).heap.size = w.heap.size + 1 := Array.size_push _
theorem numD_le {s r : Un.Bs} {x : Nat} (h : Un.numD s = some (x, r)) : r.length ≤ s.length := by
  obtain ⟨l, e, _⟩ := Un.numP_of h
  rw [e]; simp
theorem spD_le {s r : Un.Bs} {a n : Nat} (h : Un.spD s = some (a, n, r)) : r.length ≤ s.length := by
  obtain ⟨x, e, _⟩ := Un.rngP_of h
  rw [e]; simp
theorem sizeHk : (Tryz.prog.info? 37).map (·.size) = some 6 := by kernel_rfl
/-- what head answers: where there is no place, the hunk is some one -/
def HdAns (l : Un.Bs) (e : Ending) : Prop := ∃ (a n b m : Nat) (x : ByteArray), e = .returned (.tuple #[.agg #[.int .i64 a, .int .i64 n, .int .i64 b, .int .i64 m, .string x, .slice none 0 0], .bool (Un.placeD l).isSome]) ∧ ∀ p, Un.placeD l = some p → a = p.a ∧ n = p.n ∧ b = p.b ∧ m = p.m ∧ x = bB p.head
theorem hd_no {l : Un.Bs} (h : Un.placeD l = none) {a n b m : Nat} {x : ByteArray} : HdAns l (.returned (.tuple #[.agg #[.int .i64 a, .int .i64 n, .int .i64 b, .int .i64 m, .string x, .slice none 0 0], .bool false])) :=
  ⟨a, n, b, m, x, by rw [h]; rfl, fun p hp => by rw [h] at hp; cases hp⟩
theorem hd_yes {l : Un.Bs} {p : Un.Plc} (h : Un.placeD l = some p) : HdAns l (.returned (.tuple #[.agg #[.int .i64 p.a, .int .i64 p.n, .int .i64 p.b, .int .i64 p.m, .string (bB p.head), .slice none 0 0], .bool true])) :=
  ⟨p.a, p.n, p.b, p.m, bB p.head, by rw [h]; rfl, fun q hq => by rw [h] at hq; cases hq; exact ⟨rfl, rfl, rfl, rfl, rfl⟩⟩
theorem pD1 {l : Un.Bs} (h : Un.pre Un.mkB l = none) : Un.placeD l = none := by unfold Un.placeD; rw [h]
theorem pD2 {l s1 : Un.Bs} (h : Un.pre Un.mkB l = some s1) (h1 : Un.spD s1 = none) : Un.placeD l = none := by unfold Un.placeD; rw [h]; simp only []; rw [h1]
theorem pD3 {l s1 r1 : Un.Bs} {a n : Nat} (h : Un.pre Un.mkB l = some s1) (h1 : Un.spD s1 = some (a, n, r1)) (h2 : Un.pre Un.mkM r1 = none) : Un.placeD l = none := by unfold Un.placeD; rw [h]; simp only []; rw [h1]; simp only []; rw [h2]
theorem pD4 {l s1 r1 s2 : Un.Bs} {a n : Nat} (h : Un.pre Un.mkB l = some s1) (h1 : Un.spD s1 = some (a, n, r1)) (h2 : Un.pre Un.mkM r1 = some s2) (h3 : Un.spD s2 = none) : Un.placeD l = none := by unfold Un.placeD; rw [h]; simp only []; rw [h1]; simp only []; rw [h2]; simp only []; rw [h3]
theorem pD5 {l s1 r1 s2 r2 : Un.Bs} {a n b m : Nat} (h : Un.pre Un.mkB l = some s1) (h1 : Un.spD s1 = some (a, n, r1)) (h2 : Un.pre Un.mkM r1 = some s2) (h3 : Un.spD s2 = some (b, m, r2)) (h4 : Un.pre Un.mkC r2 = none) : Un.placeD l = none := by unfold Un.placeD; rw [h]; simp only []; rw [h1]; simp only []; rw [h2]; simp only []; rw [h3]; simp only []; rw [h4]
theorem pD6 {l s1 r1 s2 r2 t : Un.Bs} {a n b m : Nat} (h : Un.pre Un.mkB l = some s1) (h1 : Un.spD s1 = some (a, n, r1)) (h2 : Un.pre Un.mkM r1 = some s2) (h3 : Un.spD s2 = some (b, m, r2)) (h4 : Un.pre Un.mkC r2 = some t) : Un.placeD l = (Un.headP t).map fun h => ⟨a, n, b, m, h⟩ := by unfold Un.placeD; rw [h]; simp only []; rw [h1]; simp only []; rw [h2]; simp only []; rw [h3]; simp only []; rw [h4]
theorem headP_nil {y : ByteArray} (h : y.size = 0) : Un.headP y.data.toList = some [] := by
  rw [show y.data.toList = [] from List.length_eq_zero_iff.1 (by rw [dsize]; exact h)]; rfl
theorem headP_sp {y : ByteArray} (h : 0 < y.size) (h9 : y[0].toNat = 32) : Un.headP y.data.toList = some (y.data.toList.drop 1) := by
  have e := Cx.drop_head y 0 h
  rw [List.drop_zero] at e
  rw [e]
  unfold Un.headP
  simp only []
  rw [if_pos (UInt8.toNat_inj.1 h9)]
  rfl
theorem headP_no {y : ByteArray} (h : 0 < y.size) (h9 : y[0].toNat ≠ 32) : Un.headP y.data.toList = none := by
  have e := Cx.drop_head y 0 h
  rw [List.drop_zero] at e
  rw [e]
  unfold Un.headP
  simp only []
  rw [if_neg (fun e => h9 (by rw [e]; rfl))]
theorem pre_le {p s r : Un.Bs} (h : Un.pre p s = some r) : r.length ≤ s.length := by rw [Un.pre_some.1 h]; simp
end Go.Proofs.YtkolgglllladfaaGreatDoor
/-
  The walk of the document's Split, and of its Count: for every text whose lines' headers fit into memory.
-/
namespace Go.Proofs.YtkolgglllladfaaGreatDoor.Cx
open Go.RowKit

theorem ref_hit (l : List UInt8) (fr k : Nat) (hk : l[k]? = some 10) (hfr : fr ≤ k) (hno : (10 : UInt8) ∉ (l.take k).drop fr) :
    Pl.cut (l.drop fr) = [(l.drop fr).take (k + 1 - fr)] ++ Pl.cut (l.drop (k + 1)) := by
  have hlt : k < l.length := by
    rcases Nat.lt_or_ge k l.length with h | h
    · exact h
    · rw [List.getElem?_eq_none h] at hk; cases hk
  have e1 : l.drop k = 10 :: l.drop (k + 1) := by
    rw [List.drop_eq_getElem_cons hlt]
    rw [List.getElem?_eq_getElem hlt] at hk
    rw [Option.some.inj hk]
  have e2 : l.drop fr = (l.take k).drop fr ++ 10 :: l.drop (k + 1) := by
    rw [← e1]
    have : l = l.take k ++ l.drop k := (List.take_append_drop k l).symm
    conv => lhs; rw [this]
    rw [List.drop_append_of_le_length (by rw [List.length_take]; omega)]
  have el : ((l.take k).drop fr).length = k - fr := by rw [List.length_drop, List.length_take]; omega
  have e3 : (l.drop fr).take (k + 1 - fr) = (l.take k).drop fr ++ [10] := by
    rw [e2]
    have : k + 1 - fr = ((l.take k).drop fr ++ [10]).length := by rw [List.length_append, el]; simp; omega
    rw [this, show (l.take k).drop fr ++ 10 :: l.drop (k + 1) = ((l.take k).drop fr ++ [10]) ++ l.drop (k + 1) by simp, List.take_left]
  rw [e3, e2, Pl.cut_first _ _ hno]
  rfl
theorem ref_miss (l : List UInt8) (fr k : Nat) (c : UInt8) (hk : l[k]? = some c) (hc : c ≠ 10) (hfr : fr ≤ k) (hno : (10 : UInt8) ∉ (l.take k).drop fr) : (10 : UInt8) ∉ (l.take (k + 1)).drop fr := by
  have hlt : k < l.length := by
    rcases Nat.lt_or_ge k l.length with h | h
    · exact h
    · rw [List.getElem?_eq_none h] at hk; cases hk
  rw [List.take_add_one, hk, List.drop_append_of_le_length (by rw [List.length_take]; omega)]
  intro h
  rcases List.mem_append.1 h with h | h
  · exact hno h
  · simp at h; exact hc h.symm

theorem own_geS {w : World} {base n : Nat} {e : TypeId} {size : Nat} {v : Value} {xs : List Value} (h : w.ownsRow base e size v n xs) : ∀ k, v.ownBlock = some k → base ≤ k := by
  intro k hk
  rcases h.2 with ⟨hv, _⟩ | ⟨g, cap, cur, hv, hg, _⟩
  · subst hv; cases hk
  · subst hv; cases hk; exact hg
theorem SV_snoc (done : List (List UInt8)) (a : ByteArray) : SV (done ++ [a.data.toList]) = SV done ++ [.string a] := by rw [SV_append, SV_one]

end Go.Proofs.YtkolgglllladfaaGreatDoor.Cx
/-
  The document's Place, InOrder and Lines (layer 11).
-/
namespace Go.Proofs.YtkolgglllladfaaGreatDoor
open Go.RowKit
open Hu (Rw Hk)

set_option maxHeartbeats 1000000 in
set_option maxRecDepth 100000 in
theorem rPlace11_any (a n : Int) (w : World) (ha : -9223372036854775808 < a) (ha2 : a ≤ 9223372036854775807) (hn : 0 ≤ n) : Calls Tryz.prog 65 #[.int .i64 a, .int .i64 n] w fun e w' => e = .returned (.int .i64 (Hu.plc a n)) ∧ w' = w := by
  by_cases h : n = 0
  · have HE : Hid (Hu.plc a n = a) := hid (if_neg (by omega))
    rw [HE.out]
    subst h
    go_enter Tryz.func65, Tryz.ntmps65
    go_wp2_with fail
    go_ret
    exact ⟨rfl, rfl⟩
  · have HE : Hid (Hu.plc a n = a - 1) := hid (if_pos (by omega))
    have h0 : (n == 0) = false := beq_eq_false_iff_ne.2 h
    have i1 : IntKind.i64.wrap (a - 1) = a - 1 := wrapOk (by omega) (by omega)
    rw [HE.out]
    clear h
    go_enter Tryz.func65, Tryz.ntmps65
    go_wp2_with fail
    go_ret
    exact ⟨rfl, rfl⟩
set_option maxHeartbeats 4000000 in
set_option maxRecDepth 100000 in
theorem rInOrder_any {w : World} {g h : Hk} {ua qa : Option Addr} {un uc qn qc : Nat} (hh : SmH h) (hg : SmH g) :
    Calls Tryz.prog 33 #[HkV g (.slice qa qn qc), HkV h (.slice ua un uc)] w fun e w' => e = .returned (.bool (Un.inO g h)) ∧ Below w.heap.size w w' := by
  obtain ⟨xa, xn, xb, xm, xh, xr⟩ := h
  obtain ⟨ga, gn, gb, gm, gh, gr⟩ := g
  unfold HkV Un.inO
  obtain ⟨s1, s2, s3, s4, s5, s6, s7, s8⟩ := hh
  obtain ⟨t1, t2, t3, t4, t5, t6, t7, t8⟩ := hg
  dsimp only at *
  have p1 := plc_le (n := xn) s1 s2
  have p2 := plc_le (n := gn) t1 t2
  have p3 := plc_le (n := xm) s5 s6
  have p4 := plc_le (n := gm) t5 t6
  have HF1 := hid (fun w1 => rPlace11_any xa xn w1 (by omega) (by omega) s3)
  have HF2 := hid (fun w1 => rPlace11_any ga gn w1 (by omega) (by omega) t3)
  have HF3 := hid (fun w1 => rPlace11_any xb xm w1 (by omega) (by omega) s7)
  have HF4 := hid (fun w1 => rPlace11_any gb gm w1 (by omega) (by omega) t7)
  generalize Hu.plc xa xn = P1 at HF1 p1 ⊢
  generalize Hu.plc ga gn = P2 at HF2 p2 ⊢
  generalize Hu.plc xb xm = P3 at HF3 p3 ⊢
  generalize Hu.plc gb gm = P4 at HF4 p4 ⊢
  have i1 : IntKind.i64.wrap (P2 + gn) = P2 + gn := wrapOk (by omega) (by omega)
  have i2 : IntKind.i64.wrap (P4 + gm) = P4 + gm := wrapOk (by omega) (by omega)
  have HW2 := hid (twoF w (.cells #[.int .i64 ga, .int .i64 gn, .int .i64 gb, .int .i64 gm, .string gh, .slice qa qn qc] 37) (.cells #[.int .i64 xa, .int .i64 xn, .int .i64 xb, .int .i64 xm, .string xh, .slice ua un uc] 37))
  clear p1 p2 p3 p4 s1 s2 s3 s4 s5 s6 s7 s8 t1 t2 t3 t4 t5 t6 t7 t8
  go_enter Tryz.func33, Tryz.ntmps33
  go_wp2_with fail
  obtain ⟨hb2, hk1, hk2⟩ := HW2.out
  have HB2 := hid hb2
  generalize (w.alloc (.cells #[.int .i64 ga, .int .i64 gn, .int .i64 gb, .int .i64 gm, .string gh, .slice qa qn qc] 37)).alloc (.cells #[.int .i64 xa, .int .i64 xn, .int .i64 xb, .int .i64 xm, .string xh, .slice ua un uc] 37) = w2 at hk1 hk2 HB2 ⊢
  obtain ⟨H, hH⟩ : ∃ H, H = w.heap.size := ⟨_, rfl⟩
  rw [← hH] at hk1 hk2 ⊢
  have x0 : w2.cell? ⟨H + 1, 0, none⟩ = some (.int .i64 xa) := cell_of_blk hk2 0
  have x1 : w2.cell? ⟨H + 1, 1, none⟩ = some (.int .i64 xn) := cell_of_blk hk2 1
  have x2 : w2.cell? ⟨H + 1, 2, none⟩ = some (.int .i64 xb) := cell_of_blk hk2 2
  have x3 : w2.cell? ⟨H + 1, 3, none⟩ = some (.int .i64 xm) := cell_of_blk hk2 3
  have g0 : w2.cell? ⟨H, 0, none⟩ = some (.int .i64 ga) := cell_of_blk hk1 0
  have g1 : w2.cell? ⟨H, 1, none⟩ = some (.int .i64 gn) := cell_of_blk hk1 1
  have g2 : w2.cell? ⟨H, 2, none⟩ = some (.int .i64 gb) := cell_of_blk hk1 2
  have g3 : w2.cell? ⟨H, 3, none⟩ = some (.int .i64 gm) := cell_of_blk hk1 3
  clear hb2 hk1 hk2 HW2 hH
  by_cases hq : P2 + gn ≤ P1
  · have HQ := hid (decide_eq_true hq)
    go_quiet ((go_at_call 65; first | with_reducible exact Calls.quiet_of_same (HF1.out _) | with_reducible exact Calls.quiet_of_same (HF2.out _) | with_reducible exact Calls.quiet_of_same (HF3.out _) | with_reducible exact Calls.quiet_of_same (HF4.out _)))
    have HB3 := hid (below_drewN HB2.out nq)
    go_wp2_with fail
    go_ret
    exact ⟨by rw [HQ.out, Bool.true_and]; rfl, HB3.out⟩
  · have HQ := hid (decide_eq_false hq)
    go_quiet ((go_at_call 65; first | with_reducible exact Calls.quiet_of_same (HF1.out _) | with_reducible exact Calls.quiet_of_same (HF2.out _) | with_reducible exact Calls.quiet_of_same (HF3.out _) | with_reducible exact Calls.quiet_of_same (HF4.out _)))
    have HB3 := hid (below_drewN HB2.out nq)
    go_wp2_with fail
    go_ret
    exact ⟨by rw [HQ.out, Bool.false_and]; rfl, HB3.out⟩
theorem app10 (s : ByteArray) : s ++ ⟨#[10]⟩ = bB (s.data.toList ++ [10]) := by
  rw [← bB_app, bB_eta]; rfl
theorem num_le (l : Un.Bs) : Pl.num l ≤ l.length + 1 := by
  exact Nat.le_succ_of_le (Pl.num_le l)
end Go.Proofs.YtkolgglllladfaaGreatDoor
/-
  The document's rows (layer 11). (Made by wip/genvb.py out of wip/vb.head.)
-/
namespace Go.Proofs.YtkolgglllladfaaGreatDoor
open Go.RowKit
open Hu (Rw Hk)

theorem dropAt {l : List Un.Bs} {k : Nat} {x : Un.Bs} (h : l[k]? = some x) : l.drop k = x :: l.drop (k + 1) := by
  have hk : k < l.length := by
    rcases Nat.lt_or_ge k l.length with h' | h'
    · exact h'
    · rw [List.getElem?_eq_none h'] at h; cases h
  rw [List.drop_eq_getElem_cons hk]
  rw [List.getElem?_eq_getElem hk] at h
  rw [Option.some.inj h]
theorem head_B (y : ByteArray) (h : 0 < y.size) : y.data.toList.head? = some y[0] := by
  have e := Cx.drop_head y 0 h
  rw [List.drop_zero] at e
  rw [e]; rfl
theorem rowsD_end {x : Un.Bs} {ls : List Un.Bs} {n m c : Nat} {acc : List (Int × Un.Bs)} (h : Un.isEnd x = true) : Un.rowsD (x :: ls) n m false acc c = .bad c := by
  rw [Un.rowsD, if_pos h]; rfl
theorem rowsD_take {x : Un.Bs} {ls : List Un.Bs} {n m c : Nat} {acc : List (Int × Un.Bs)} (h : Un.isEnd x = true) : Un.rowsD (x :: ls) n m true acc c = Un.rowsD ls n m false (Un.bareLast acc) (c + 1) := by
  rw [Un.rowsD, if_pos h]; rfl
theorem rowsD_full {x : Un.Bs} {ls : List Un.Bs} {c : Nat} {mk : Bool} {acc : List (Int × Un.Bs)} (h : Un.isEnd x = false) : Un.rowsD (x :: ls) 0 0 mk acc c = .ok acc (x :: ls) c := by
  rw [Un.rowsD, if_neg (by rw [h]; exact Bool.false_ne_true), if_pos ⟨rfl, rfl⟩]
theorem rowsD_full0 {c : Nat} {mk : Bool} {acc : List (Int × Un.Bs)} : Un.rowsD [] 0 0 mk acc c = .ok acc [] c := by
  rw [Un.rowsD, if_pos ⟨rfl, rfl⟩]
theorem rowsD_out {n m c : Nat} {mk : Bool} {acc : List (Int × Un.Bs)} (h : ¬ (n = 0 ∧ m = 0)) : Un.rowsD [] n m mk acc c = .bad c := by
  rw [Un.rowsD, if_neg h]
theorem rowsD_no {x : Un.Bs} {ls : List Un.Bs} {n m c : Nat} {mk : Bool} {acc : List (Int × Un.Bs)} (h : Un.isEnd x = false) (h0 : ¬ (n = 0 ∧ m = 0)) (hm : Un.mark x = none) : Un.rowsD (x :: ls) n m mk acc c = .bad c := by
  rw [Un.rowsD, if_neg (by rw [h]; exact Bool.false_ne_true), if_neg h0, hm]
theorem rowsD_less {x : Un.Bs} {ls : List Un.Bs} {n m c j : Nat} {k : Int} {mk : Bool} {acc : List (Int × Un.Bs)} (h : Un.isEnd x = false) (h0 : ¬ (n = 0 ∧ m = 0)) (hm : Un.mark x = some (k, j)) (hl : Un.less k n m = none) : Un.rowsD (x :: ls) n m mk acc c = .bad c := by
  rw [Un.rowsD, if_neg (by rw [h]; exact Bool.false_ne_true), if_neg h0, hm]
  simp only
  rw [hl]
theorem rowsD_step {x : Un.Bs} {ls : List Un.Bs} {n m c j n' m' : Nat} {k : Int} {mk : Bool} {acc : List (Int × Un.Bs)} (h : Un.isEnd x = false) (h0 : ¬ (n = 0 ∧ m = 0)) (hm : Un.mark x = some (k, j)) (hl : Un.less k n m = some (n', m')) : Un.rowsD (x :: ls) n m mk acc c = Un.rowsD ls n' m' true (acc ++ [(k, x.drop j)]) (c + 1) := by
  rw [Un.rowsD, if_neg (by rw [h]; exact Bool.false_ne_true), if_neg h0, hm]
  simp only
  rw [hl]
theorem is_ten {x p : Un.Bs} {c : UInt8} (h : x.head? = some c) (hc : c.toNat = 10) (hx : x = p ++ [10]) (hp : (10 : UInt8) ∉ p) : x = [10] := by
  cases p with
  | nil => exact hx
  | cons d p =>
    exfalso
    rw [hx] at h
    have : d = c := Option.some.inj h
    exact hp (by rw [this, UInt8.toNat_inj.1 (show c.toNat = (10 : UInt8).toNat from hc)]; exact List.mem_cons_self)
theorem mark_ten {x p : Un.Bs} {c : UInt8} (h : x.head? = some c) (hc : c.toNat = 10) (hx : x = p ++ [10]) (hp : (10 : UInt8) ∉ p) : Un.mark x = some (1, 0) := by
  rw [is_ten h hc hx hp]; rfl
theorem not_ten {x : Un.Bs} {c : UInt8} (h : x.head? = some c) (hc : c.toNat ≠ 10) : x ≠ [10] := fun e => by
  rw [e] at h
  exact hc (by rw [← Option.some.inj h]; rfl)
theorem mark_32 {x : Un.Bs} {c : UInt8} (h : x.head? = some c) (hc : c.toNat = 32) : Un.mark x = some (1, 1) := by
  unfold Un.mark
  rw [if_neg (not_ten h (by omega)), h]
  simp only
  rw [if_pos (UInt8.toNat_inj.1 (show c.toNat = (32 : UInt8).toNat from hc))]
theorem mark_45 {x : Un.Bs} {c : UInt8} (h : x.head? = some c) (hc : c.toNat = 45) : Un.mark x = some (2, 1) := by
  unfold Un.mark
  rw [if_neg (not_ten h (by omega)), h, UInt8.toNat_inj.1 (show c.toNat = (45 : UInt8).toNat from hc)]
  rfl
theorem mark_43 {x : Un.Bs} {c : UInt8} (h : x.head? = some c) (hc : c.toNat = 43) : Un.mark x = some (3, 1) := by
  unfold Un.mark
  rw [if_neg (not_ten h (by omega)), h, UInt8.toNat_inj.1 (show c.toNat = (43 : UInt8).toNat from hc)]
  rfl
theorem mark_other {x : Un.Bs} {c : UInt8} (h : x.head? = some c) (h1 : ¬ c.toNat = 32) (h2 : ¬ c.toNat = 10) (h3 : ¬ c.toNat = 45) (h4 : ¬ c.toNat = 43) : Un.mark x = none := by
  unfold Un.mark
  rw [if_neg (not_ten h h2), h]
  simp only
  rw [if_neg (fun e => h1 (by rw [e]; rfl)), if_neg (fun e => h3 (by rw [e]; rfl)), if_neg (fun e => h4 (by rw [e]; rfl))]
theorem less_n1 {n m : Nat} (h : n = 0) : Un.less 1 n m = none := by unfold Un.less; rw [if_pos rfl, if_neg (fun q => by omega)]
theorem less_m1 {n m : Nat} (h : m = 0) : Un.less 1 n m = none := by unfold Un.less; rw [if_pos rfl, if_neg (fun q => by omega)]
theorem less_n2 {n m : Nat} (h : n = 0) : Un.less 2 n m = none := by unfold Un.less; rw [if_neg (by decide), if_pos rfl, if_neg (by omega)]
theorem less_m3 {n m : Nat} (h : m = 0) : Un.less 3 n m = none := by unfold Un.less; rw [if_neg (by decide), if_neg (by decide), if_neg (by omega)]
theorem less_1 {n m n' m' : Nat} (h1 : 0 < n) (h2 : 0 < m) (h3 : n' = n - 1) (h4 : m' = m - 1) : Un.less 1 n m = some (n', m') := by unfold Un.less; rw [if_pos rfl, if_pos ⟨h1, h2⟩, h3, h4]
theorem less_2 {n m n' m' : Nat} (h1 : 0 < n) (_ : 0 ≤ m) (h3 : n' = n - 1) (h4 : m' = m) : Un.less 2 n m = some (n', m') := by unfold Un.less; rw [if_neg (by decide), if_pos rfl, if_pos h1, h3, h4]
theorem less_3 {n m n' m' : Nat} (_ : 0 ≤ n) (h2 : 0 < m) (h3 : n' = n) (h4 : m' = m - 1) : Un.less 3 n m = some (n', m') := by unfold Un.less; rw [if_neg (by decide), if_neg (by decide), if_pos h2, h3, h4]
theorem acc_last {acc : List (Int × Un.Bs)} (h : acc ≠ []) : ∃ A0 r, acc = A0 ++ [r] := ⟨acc.dropLast, acc.getLast h, (List.dropLast_concat_getLast h).symm⟩
theorem bareLast_snoc (A0 : List (Int × Un.Bs)) (r : Int × Un.Bs) : Un.bareLast (A0 ++ [r]) = A0 ++ [(r.1, Un.bare r.2)] := by
  unfold Un.bareLast
  simp
theorem own_addr {w : World} {B n vc : Nat} {va : Option Addr} {X : List Rw} (h : OwnW w B (.slice va n vc) X) (hp : X ≠ []) : ∃ g, va = some ⟨g, 0, none⟩ ∧ B ≤ g := by
  rcases h.2 with ⟨_, hn⟩ | ⟨g, cap, cur, hv, hg, _⟩
  · exact absurd (List.length_eq_zero_iff.1 hn) hp
  · cases hv; exact ⟨g, rfl, hg⟩
theorem rwsC_last (X0 : List Rw) (k : Int) (t u : ByteArray) : (rwsC (X0 ++ [⟨k, t⟩])).set (X0.length * 2 + 1) (.string u) = rwsC (X0 ++ [⟨k, u⟩]) := by
  rw [rwsC_append, rwsC_append, List.set_append, if_neg (by rw [rwsC_length]; omega), rwsC_length]
  congr 1
  rw [show X0.length * 2 + 1 - X0.length * 2 = 1 by omega]
  rfl
theorem own_lastRow {w : World} {B g n cap : Nat} {X0 : List Rw} {k : Int} {t u : ByteArray} (h : OwnW w B (.slice (some ⟨g, 0, none⟩) n cap) (X0 ++ [⟨k, t⟩])) (hn : n = X0.length + 1) : OwnW (w.setCell ⟨g, X0.length * 2 + 1, none⟩ (.string u)) B (.slice (some ⟨g, 0, none⟩) n cap) (X0 ++ [⟨k, u⟩]) := by
  have e1 : (X0 ++ [(⟨k, t⟩ : Rw)]).length = n := by rw [hn]; simp
  have e2 : (X0 ++ [(⟨k, u⟩ : Rw)]).length = n := by rw [hn]; simp
  unfold OwnW at h ⊢
  rw [e1] at h
  rw [e2, ← rwsC_last X0 k t u]
  exact (h.stored (X0.length * 2 + 1) (.string u)).1
theorem own_free {w : World} {B g n cap : Nat} {X : List Rw} (h : OwnW w B (.slice (some ⟨g, 0, none⟩) n cap) X) (j : Nat) : w.frozen? ⟨g, j, none⟩ = false := by
  rcases h.2 with ⟨h', _⟩ | ⟨g', cap', cur, h', _, hg, _⟩
  · cases h'
  · cases h'; exact frozR hg j
theorem own_setG {w w' : World} {B G : Nat} {v : Value} {X : List Rw} (h : OwnW w B v X) (hk : Kept (fun j => j = G) w w') (hG : G < B) : OwnW w' B v X := by
  refine ⟨h.1, ?_⟩
  rcases h.2 with h2 | ⟨g, cap, cur, hv, hg, hh, r⟩
  · exact .inl h2
  · exact .inr ⟨g, cap, cur, hv, hg, (hk.block g (lt_of_heap hh) (by omega)).trans hh, r⟩
/-- what rows answers -/
def RwAns (w w' : World) (ls : List Un.Bs) (k0 a N b M : Nat) (hd : ByteArray) (e : Ending) : Prop :=
  match Un.rowsD (ls.drop k0) N M false [] k0 with
  | .bad c => ∃ va n vc, e = .returned (.tuple #[.agg #[.int .i64 (a : Nat), .int .i64 (N : Nat), .int .i64 (b : Nat), .int .i64 (M : Nat), .string hd, .slice va n vc], .int .i64 (c : Nat), .int .i64 111])
  | .ok rows _ c => ∃ v, e = .returned (.tuple #[.agg #[.int .i64 (a : Nat), .int .i64 (N : Nat), .int .i64 (b : Nat), .int .i64 (M : Nat), .string hd, v], .int .i64 (c : Nat), .int .i64 0]) ∧ OwnW w' (w.heap.size + 2) v (rows.map Un.toR) ∧ c ≤ ls.length
theorem rwBad {w w' : World} {ls : List Un.Bs} {k0 a N b M c n vc : Nat} {hd : ByteArray} {va : Option Addr} (h : Un.rowsD (ls.drop k0) N M false [] k0 = .bad c) : RwAns w w' ls k0 a N b M hd (.returned (.tuple #[.agg #[.int .i64 (a : Nat), .int .i64 (N : Nat), .int .i64 (b : Nat), .int .i64 (M : Nat), .string hd, .slice va n vc], .int .i64 (c : Nat), .int .i64 111])) := by
  unfold RwAns
  rw [h]
  exact ⟨_, _, _, rfl⟩
theorem rwOk {w w' : World} {ls ls' : List Un.Bs} {rows : List (Int × Un.Bs)} {k0 a N b M c : Nat} {hd : ByteArray} {v : Value} (h : Un.rowsD (ls.drop k0) N M false [] k0 = .ok rows ls' c) (ho : OwnW w' (w.heap.size + 2) v (rows.map Un.toR)) (hc : c ≤ ls.length) : RwAns w w' ls k0 a N b M hd (.returned (.tuple #[.agg #[.int .i64 (a : Nat), .int .i64 (N : Nat), .int .i64 (b : Nat), .int .i64 (M : Nat), .string hd, v], .int .i64 (c : Nat), .int .i64 0])) := by
  unfold RwAns
  rw [h]
  exact ⟨_, rfl, ho, hc⟩
end Go.Proofs.YtkolgglllladfaaGreatDoor
/-
  Unified diffs, plain: hunks one behind the other, and the whole, as the document reads them: by a line's place in the list of lines.
-/
namespace Go.Proofs.YtkolgglllladfaaGreatDoor.Un
open Hu (Rw Hk)

def Rd.up (d : Nat) : Rd → Rd
  | .bad c => .bad (c + d)
  | .ok rows ls c => .ok rows ls (c + d)
theorem rowsD_up (d : Nat) : ∀ (ls : List Bs) (n m : Nat) (mk : Bool) (acc : List (Int × Bs)) (c : Nat), rowsD ls n m mk acc (c + d) = (rowsD ls n m mk acc c).up d
  | [], n, m, mk, acc, c => by
    rw [rowsD, rowsD]
    split <;> rfl
  | x :: ls, n, m, mk, acc, c => by
    rw [rowsD, rowsD]
    split
    · split
      · rw [show c + d + 1 = (c + 1) + d by omega]; exact rowsD_up d ls n m false (bareLast acc) (c + 1)
      · rfl
    · split
      · rfl
      · split
        · rfl
        · split
          · rfl
          · rw [show c + d + 1 = (c + 1) + d by omega]; exact rowsD_up d ls _ _ true _ (c + 1)
theorem behind_nil (d : Rd) : d.behind [] = d := by cases d <;> rfl
theorem rowsP_D (ls : List Bs) (n m c : Nat) : rowsP ls n m (c + 1) = (rowsD ls n m false [] c).up 1 := by
  rw [← rowsD_up, rows_eq, behind_nil]
/-- one hunk, as the document reads it -/
theorem hunksD_no {ls : List Bs} {k f : Nat} {acc : List Hk} (h : ls.drop k = []) : hunksF (f + 1) (ls.drop k) (k + 1) acc = .fin (k + 1) acc := by rw [h]; rfl
theorem hunksD_end {ls : List Bs} {k f : Nat} {x : Bs} {acc : List Hk} (h : ls[k]? = some x) (hb : begs x = false) : hunksF (f + 1) (ls.drop k) (k + 1) acc = .fin (k + 1) acc := by
  rw [dropAt h, hunksF, if_neg (by rw [hb]; exact Bool.false_ne_true)]
theorem hunksD_head {ls : List Bs} {k f : Nat} {x : Bs} {acc : List Hk} (h : ls[k]? = some x) (hb : begs x = true) (hp : placeD (bare x) = none) : hunksF (f + 1) (ls.drop k) (k + 1) acc = .bad (k + 1) 100 := by
  rw [dropAt h, hunksF, if_pos hb, place_eq, hp]
theorem hunksD_rows {ls : List Bs} {k f c : Nat} {x : Bs} {acc : List Hk} {p : Plc} (h : ls[k]? = some x) (hb : begs x = true) (hp : placeD (bare x) = some p) (hr : rowsD (ls.drop (k + 1)) p.n p.m false [] (k + 1) = .bad c) : hunksF (f + 1) (ls.drop k) (k + 1) acc = .bad (c + 1) 111 := by
  rw [dropAt h, hunksF, if_pos hb, place_eq, hp]
  simp only
  rw [rowsP_D, hr]
  rfl
theorem hunksD_ok {ls ls' : List Bs} {k f c : Nat} {x : Bs} {acc : List Hk} {p : Plc} {rows : List (Int × Bs)} (h : ls[k]? = some x) (hb : begs x = true) (hp : placeD (bare x) = some p) (hr : rowsD (ls.drop (k + 1)) p.n p.m false [] (k + 1) = .ok rows ls' c) :
    hunksF (f + 1) (ls.drop k) (k + 1) acc = if Hu.vld (mkHk p rows) then (if okO acc (mkHk p rows) then hunksF f (ls.drop c) (c + 1) (acc ++ [mkHk p rows]) else .bad (k + 1) 112) else .bad (k + 1) 100 := by
  have e : rowsP (ls.drop (k + 1)) p.n p.m (k + 1 + 1) = .ok rows ls' (c + 1) := by rw [rowsP_D, hr]; rfl
  have h2 := rowsP_drop _ _ _ _ _ _ _ _ (Nat.le_refl _) e
  have e2 : ls' = ls.drop c := by rw [h2.2, List.drop_drop]; congr 1; omega
  rw [dropAt h, hunksF, if_pos hb, place_eq, hp]
  simp only
  rw [e]
  simp only
  rw [e2]
theorem rowsD_lt {ls ls' : List Bs} {n m k c : Nat} {rows : List (Int × Bs)} (hr : rowsD (ls.drop k) n m false [] k = .ok rows ls' c) : k ≤ c := by
  have e : rowsP (ls.drop k) n m (k + 1) = .ok rows ls' (c + 1) := by rw [rowsP_D, hr]; rfl
  have := (rowsP_drop _ _ _ _ _ _ _ _ (Nat.le_refl _) e).1
  omega
/-- a header's line -/
theorem lns_0 (s : Bs) : (lns s)[0]? = if s = [] then none else some (nx s) := by
  by_cases e : s = []
  · subst e; rfl
  · rw [if_neg e, lns_cons e]; rfl
theorem lns_1 (s : Bs) : (lns s)[1]? = if adv s = [] then none else some (nx (adv s)) := by
  rw [← lns_0, lns_adv]
  cases lns s with
  | nil => rfl
  | cons x l => rfl
def hdrL (mark : Bs) (o : Option Bs) : Option (Bs × Bs) := match o with
  | none => none
  | some x => hdrD mark x
theorem hdrP_nil {mark : Bs} (h : mark ≠ []) : hdrP mark [] = none := by
  unfold hdrP
  cases mark with
  | nil => exact absurd rfl h
  | cons c t => rfl
theorem hdr_L {mark : Bs} (hk : (10 : UInt8) ∉ mark) (hm : mark ≠ []) (s : Bs) : hdrP mark (nx s) = hdrL mark (lns s)[0]? := by
  rw [lns_0]
  by_cases e : s = []
  · rw [if_pos e, e]; exact hdrP_nil hm
  · rw [if_neg e]; exact hdr_eq hk (nx_line e)
theorem hdr_L1 {mark : Bs} (hk : (10 : UInt8) ∉ mark) (hm : mark ≠ []) (s : Bs) : hdrP mark (nx (adv s)) = hdrL mark (lns s)[1]? := by
  rw [lns_1, ← lns_0]
  exact hdr_L hk hm (adv s)
/-- the whole, by the list of lines -/
theorem parse_D (s : Bs) (h : s.length ≤ 4194304) : parse s = match hdrL mkOld (lns s)[0]? with
  | none => .bad 1 110
  | some o => match hdrL mkNew (lns s)[1]? with
    | none => .bad 2 110
    | some q => match hunksF (s.length + 1) ((lns s).drop 2) (2 + 1) [] with
      | .bad c e => .bad c e
      | .ok hs c => .ok o q hs (s.drop (min ((lns s).take (c - 1)).flatten.length s.length)) := by
  unfold parse
  rw [if_neg (by omega), hdr_L (by decide) (by decide), hdr_L1 (by decide) (by decide), lns_advN]
  cases hdrL mkOld (lns s)[0]? with
  | none => rfl
  | some o =>
    simp only
    cases hdrL mkNew (lns s)[1]? with
    | none => rfl
    | some q =>
      simp only
      cases hunksF (s.length + 1) ((lns s).drop 2) (2 + 1) [] with
      | bad c e => rfl
      | ok hs c => simp only; rw [left_eq]
theorem lns_le (s : Bs) : (lns s).length ≤ s.length := lns_len _ s (Nat.le_refl _)
theorem lns_ok {s x : Bs} (h : x ∈ lns s) : (∃ p, x = p ++ [10] ∧ (10 : UInt8) ∉ p) ∧ x.length ≤ s.length + 1 := lns_line _ s (Nat.le_refl _) x h
theorem flat_le : ∀ (n : Nat) (s : Bs), s.length ≤ n → (lns s).flatten.length ≤ s.length + 1
  | 0, s, h => by
    have : s = [] := List.length_eq_zero_iff.1 (by omega)
    subst this; exact Nat.zero_le _
  | n + 1, s, h => by
    by_cases e : s = []
    · subst e; exact Nat.zero_le _
    · rw [lns_cons e, List.flatten_cons, List.length_append]
      have h1 := adv_lt e
      by_cases e2 : adv s = []
      · have : lns (s.drop (Go.Proofs.YtkolgglllladfaaGreatDoor.Pl.fl s)) = [] := by show lns (adv s) = []; rw [e2]; rfl
        rw [this]
        have := nx_size s
        simp; omega
      · have h2 := flat_le n (adv s) (by omega)
        have h3 : (lns (s.drop (Go.Proofs.YtkolgglllladfaaGreatDoor.Pl.fl s))).flatten.length ≤ (adv s).length + 1 := h2
        have h4 : (nx s).length ≤ Go.Proofs.YtkolgglllladfaaGreatDoor.Pl.fl s := by
          have := nx_len s
          have h5 : Go.Proofs.YtkolgglllladfaaGreatDoor.Pl.fl s < s.length := by
            unfold adv at e2
            rcases Nat.lt_or_ge (Go.Proofs.YtkolgglllladfaaGreatDoor.Pl.fl s) s.length with h' | h'
            · exact h'
            · exact absurd (List.drop_of_length_le h') e2
          omega
        have h5 : (adv s).length = s.length - Go.Proofs.YtkolgglllladfaaGreatDoor.Pl.fl s := by unfold adv; rw [List.length_drop]
        have h6 := Go.Proofs.YtkolgglllladfaaGreatDoor.Pl.fl_le s
        omega
theorem flat_take (s : Bs) (k : Nat) : ((lns s).take k).flatten.length ≤ s.length + 1 := by
  have h1 := flat_le _ s (Nat.le_refl _)
  have h2 : ((lns s).take k).flatten.length ≤ (lns s).flatten.length := by
    have := congrArg (fun l : List Bs => l.flatten.length) (List.take_append_drop k (lns s))
    simp only [List.flatten_append, List.length_append] at this
    omega
  omega
theorem rowsD_badLe : ∀ (ls : List Bs) (n m : Nat) (mk : Bool) (acc : List (Int × Bs)) (c c' : Nat), rowsD ls n m mk acc c = .bad c' → c' ≤ c + ls.length
  | [], n, m, mk, acc, c, c', h => by
    rw [rowsD] at h
    split at h
    · cases h
    · cases h; exact Nat.le_refl _
  | x :: ls, n, m, mk, acc, c, c', h => by
    rw [rowsD] at h
    rw [List.length_cons]
    split at h
    · split at h
      · have := rowsD_badLe ls n m false (bareLast acc) (c + 1) c' h; omega
      · cases h; omega
    · split at h
      · cases h
      · split at h
        · cases h; omega
        · split at h
          · cases h; omega
          · have := rowsD_badLe ls _ _ true _ (c + 1) c' h; omega
theorem pre_begs (x : Bs) : (pre mkB x).isSome = begs x := by
  unfold pre begs
  split
  · rename_i h; rw [h]; rfl
  · rename_i h; rw [Bool.not_eq_true] at h; rw [h]; rfl
end Go.Proofs.YtkolgglllladfaaGreatDoor.Un
/-
  The document's Parse (layer 11). (Made by wip/genvd.py.)
-/
namespace Go.Proofs.YtkolgglllladfaaGreatDoor
open Go.RowKit
open Hu (Rw Hk)

theorem sv_stC (l : List Un.Bs) : Cx.SV l = stC (l.map bB) := by
  unfold Cx.SV stC
  rw [List.map_map]
  rfl
theorem rd_lns {w : World} {v : Value} {l : List Un.Bs} (h : RdX w v l.length (Cx.SV l)) : RdT w v (l.map bB) := by
  show RdX _ _ _ _
  rw [List.length_map, ← sv_stC]
  exact h
/-- what the document's Parse answers -/
def DocAns (B : Nat) (w' : World) (e : Ending) : Un.Ps → Prop
  | .bad c er => e = .returned (.tuple #[.agg #[.string ⟨#[]⟩, .string ⟨#[]⟩], .agg #[.string ⟨#[]⟩, .string ⟨#[]⟩], .slice none 0 0, .string ⟨#[]⟩, .int .i64 (c : Nat), .int .i64 (er : Nat)])
  | .ok o q hs rest => ∃ v, e = .returned (.tuple #[.agg #[.string (bB o.1), .string (bB o.2)], .agg #[.string (bB q.1), .string (bB q.2)], v, .string (bB rest), .int .i64 0, .int .i64 0]) ∧ OwnH w' B v hs ∧ (∀ h ∈ hs, SzH h) ∧ hs.length ≤ 5000000
def ClsD (w : World) (B : Nat) (w' : World) : Prop := Below w.heap.size w w' ∧ w'.heap[B]? = some (.cells #[.string ⟨#[]⟩, .string ⟨#[]⟩] 23) ∧ w'.heap[B + 1]? = some (.cells #[.string ⟨#[]⟩, .string ⟨#[]⟩] 23) ∧ w'.heap[B + 2]? = some (.cells #[.string ⟨#[]⟩, .string ⟨#[]⟩] 23)
def flN (l : List Un.Bs) (i : Nat) : Nat := (l.take i).flatten.length
theorem flN_next {l : List Un.Bs} {i : Nat} {x : Un.Bs} (h : l[i]? = some x) : flN l (i + 1) = flN l i + x.length := by
  unfold flN
  rw [List.take_add_one, h]
  simp
theorem rows_sz {s x : Un.Bs} {k c : Nat} {p : Un.Plc} {rows : List (Int × Un.Bs)} {ls' : List Un.Bs} (hs : s.length ≤ 4194304) (hx : x ∈ Un.lns s) (hp : Un.placeD (Un.bare x) = some p) (hr : Un.rowsD ((Un.lns s).drop k) p.n p.m false [] k = .ok rows ls' c) : SzH (Un.mkHk p rows) := by
  rw [← Un.place_eq] at hp
  have h1 := place_head hp
  have h2 := bare_le x
  have h3 := (Un.lns_ok hx).2
  have e : Un.rowsP ((Un.lns s).drop k) p.n p.m (k + 1) = .ok rows ls' (c + 1) := by rw [Un.rowsP_D, hr]; rfl
  have h5 := Un.lns_le s
  have h6 := rows_le _ _ _ _ _ _ _ _ (s.length + 1) (Nat.le_refl _) (fun z hz => (Un.lns_ok (List.mem_of_mem_drop hz)).2) e
  rw [List.length_drop] at h6
  unfold SzH Un.mkHk
  refine ⟨?_, ?_, ?_⟩
  · show (rows.map Un.toR).length < _
    rw [List.length_map]
    omega
  · intro r hr'
    obtain ⟨q, hq, rfl⟩ := List.mem_map.1 hr'
    have := h6.2 q hq
    show (bB q.2).size ≤ _
    rw [← dsize, bB_data]
    unfold maxLen
    omega
  · show (bB p.head).size ≤ _
    rw [← dsize, bB_data]
    unfold maxLen
    omega
theorem numD_cap {s r : Un.Bs} {n : Nat} (h : Un.numD s = some (n, r)) : n ≤ 2147483647 := by
  obtain ⟨x, _, hx, _⟩ := Un.numP_of h
  exact numP_le hx
theorem placeD_le {l : Un.Bs} {p : Un.Plc} (h : Un.placeD l = some p) : p.a ≤ 2147483647 ∧ p.n ≤ 2147483647 ∧ p.b ≤ 2147483647 ∧ p.m ≤ 2147483647 := placeP_le (by rw [Un.place_eq]; exact h)
theorem run_min2U (x y : Int) (w : World) : (Builtin.min2 (.int .i64 x) (.int .i64 y)).run Tryz.prog w = .ok (.int .i64 (if y < x then y else x)) w := by
  by_cases h : y < x <;> simp [Builtin.min2, go_sem, h]
/-- what is told behind the hunks -/
def endP (s : Un.Bs) (L : List Un.Bs) (o q : Un.Bs × Un.Bs) : Un.Pr → Un.Ps
  | .bad c e => .bad c e
  | .ok hs c => .ok o q hs (s.drop (min (flN L (c - 1)) s.length))
theorem vldN_of {h : Hk} {b : Bool} (hb : Hu.vld h = b) : vldN h = if b then 0 else 100 := by unfold vldN; rw [hb]
theorem okO_nil (h : Hk) : Un.okO [] h = true := rfl
theorem okO_at {l : List Hk} {g h : Hk} (hg : l[l.length - 1]? = some g) : Un.okO l h = Un.inO g h := by
  unfold Un.okO
  rw [List.getLast?_eq_getElem?, hg]
end Go.Proofs.YtkolgglllladfaaGreatDoor
