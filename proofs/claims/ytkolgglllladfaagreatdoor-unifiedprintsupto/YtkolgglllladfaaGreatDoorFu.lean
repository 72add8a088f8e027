/-
  Unified diffs: what is written into a builder: frames; the program's WriteHead, WriteRow, rangeText.
-/
import Derived.Test.YtkolgglllladfaaGreatDoorFp
import Derived.Test.YtkolgglllladfaaGreatDoorFl
import Derived.Sort.Grow
import Derived.Lib.LaidTab
import Derived.Lib.OthersKept
namespace Go.Proofs.YtkolgglllladfaaGreatDoor
open Go.RowKit
open Hu (Rw Hk)

/-- a builder and what it holds -/
def BfAt (B b : Nat) (l : Un.Bs) (w : World) : Prop := Lib.IsBuilderF 60 5 B b (Lib.byteCells l) w
/-- what writing leaves as it was -/
structure Frm (B b : Nat) (w w' : World) : Prop where
  below : Below B w w'
  others : Lib.OthersKept 5 (some b) w w'
theorem Frm.refl (B b : Nat) (w : World) : Frm B b w w := ⟨Below.refl _ _, Lib.OthersKept.refl _ _ _⟩
theorem Frm.trans {B b : Nat} {x y z : World} (h : Frm B b x y) (k : Frm B b y z) : Frm B b x z := ⟨h.below.trans k.below, h.others.trans k.others⟩
theorem Frm.of {B b : Nat} {w w' : World} (h : Below w.heap.size w w') (hB : B ≤ w.heap.size) : Frm B b w w' :=
  ⟨h.mono hB, fun k _ hk _ _ => (h.block k (lt_of_heap hk)).trans hk⟩
theorem Frm.box {B b k : Nat} {w w' : World} {cs : Array Value} {t : TypeId} (h : Frm B b w w') (hk : w.heap[k]? = some (.cells cs t)) (hne : k ≠ b) (ht : t ≠ 5) : w'.heap[k]? = some (.cells cs t) :=
  h.others k _ hk (fun e => hne (Option.some.inj e)) (fun c fz e => ht (by injection e))
theorem BfAt.below {B b : Nat} {l : Un.Bs} {w w' : World} (h : BfAt B b l w) (hb : Below w.heap.size w w') : BfAt B b l w' := by
  have key : ∀ p, Lib.BuilderAtF 60 5 B b p (Lib.byteCells l) w → Lib.BuilderAtF 60 5 B b p (Lib.byteCells l) w' := by
    rintro p ⟨hB, v, hbk, hown, hne⟩
    refine ⟨hB, v, (hb.block b (lt_of_heap hbk)).trans hbk, ⟨hown.1, ?_⟩, hne⟩
    rcases hown.2 with h | ⟨g, cap, cur, fz, hv, hg, hh, r⟩
    · exact .inl h
    · exact .inr ⟨g, cap, cur, fz, hv, hg, (hb.block g (lt_of_heap hh)).trans hh, r⟩
  rcases h with h | h
  · exact .inl (key _ h)
  · exact .inr (key _ h)
theorem BfAt.lt {B b : Nat} {l : Un.Bs} {w : World} (h : BfAt B b l w) : b < w.heap.size ∧ B ≤ b := by
  rcases h with ⟨hB, v, hbk, _⟩ | ⟨hB, v, hbk, _⟩
  · exact ⟨lt_of_heap hbk, hB⟩
  · exact ⟨lt_of_heap hbk, hB⟩
theorem ws_any {B b : Nat} {l : Un.Bs} {w : World} (s : ByteArray) (h : BfAt B b l w) (hl : l.length + s.size ≤ 140737488355328) (hB : B ≤ w.heap.size) :
    Calls Tryz.prog 39 #[.pointer (some ⟨b, 0, none⟩), .string s] w fun e w' => e = .returned (.tuple #[.int .i64 s.size, .nilIface]) ∧ BfAt B b (l ++ s.data.toList) w' ∧ Frm B b w w' := by
  refine (Any.Builder_WriteString_k Tryz.laysm166 Tryz.Extra_m166 B b (Lib.byteCells l) s w h (by rw [Lib.byteCells_length]; exact hl) hB).mono ?_
  rintro e w' ⟨rfl, hA, hb, ho⟩
  refine ⟨rfl, .inr ?_, hb, ho⟩
  rw [Lib.byteCells_append]
  exact hA
theorem wb_any {B b : Nat} {l : Un.Bs} {w : World} (c : UInt8) (h : BfAt B b l w) (hl : l.length + 1 ≤ 140737488355328) (hB : B ≤ w.heap.size) :
    Calls Tryz.prog 63 #[.pointer (some ⟨b, 0, none⟩), .int .u8 (c.toNat : Nat)] w fun e w' => e = .returned .nilIface ∧ BfAt B b (l ++ [c]) w' ∧ Frm B b w w' := by
  refine (Any.Builder_WriteByte_k Tryz.laysm167 Tryz.Extra_m167 B b (Lib.byteCells l) (c.toNat : Nat) w h (by rw [Lib.byteCells_length]; exact hl) hB).mono ?_
  rintro e w' ⟨rfl, hA, hb, ho⟩
  refine ⟨rfl, .inr ?_, hb, ho⟩
  rw [Lib.byteCells_append]
  exact hA
theorem wb10 {B b : Nat} {l : Un.Bs} {w : World} (h : BfAt B b l w) (hl : l.length + 1 ≤ 140737488355328) (hB : B ≤ w.heap.size) :
    Calls Tryz.prog 63 #[.pointer (some ⟨b, 0, none⟩), .int .u8 10] w fun e w' => e = .returned .nilIface ∧ BfAt B b (l ++ [10]) w' ∧ Frm B b w w' := wb_any 10 h hl hB
theorem wb32 {B b : Nat} {l : Un.Bs} {w : World} (h : BfAt B b l w) (hl : l.length + 1 ≤ 140737488355328) (hB : B ≤ w.heap.size) :
    Calls Tryz.prog 63 #[.pointer (some ⟨b, 0, none⟩), .int .u8 32] w fun e w' => e = .returned .nilIface ∧ BfAt B b (l ++ [32]) w' ∧ Frm B b w w' := wb_any 32 h hl hB
/-! ### numbers -/
def PowV (w : World) : Prop := Lib.TabIs Tryz.prog w "internal/strconv.uint64pow10" .u64 Lib.pow10Tab
theorem Tryz.powGlobal : Tryz.prog.globalNamed "internal/strconv.uint64pow10" = some 2 := by kernel_rfl
theorem PowV.same {w w' : World} (h : PowV w) (hb : w'.heap[2]? = w.heap[2]?) : PowV w' := by
  unfold PowV Lib.TabIs World.var? at h ⊢
  rw [Tryz.powGlobal] at h ⊢
  simp only [Option.bind_some] at h ⊢
  rw [hb]
  exact h
theorem PowV.lt {w : World} (h : PowV w) : 2 < w.heap.size := by
  unfold PowV Lib.TabIs World.var? at h
  rw [Tryz.powGlobal] at h
  simp only [Option.bind_some] at h
  rcases Nat.lt_or_ge 2 w.heap.size with h' | h'
  · exact h'
  · rw [Array.getElem?_eq_none h'] at h; cases h
theorem PowV.below {B : Nat} {w w' : World} (h : PowV w) (hb : Below B w w') (hB : 3 ≤ B) : PowV w' := h.same (hb.block 2 (by omega))
theorem below_growF (w : World) (os : Array Obj) (k : Nat) : Below w.heap.size w (Go.Sort.grow (w.drewN k) os) :=
  ⟨rfl, rfl, rfl, by show w.heap.size ≤ (w.heap ++ os).size; rw [Array.size_append]; omega, fun j hj => by
    show (w.heap ++ os)[j]? = w.heap[j]?
    rw [Array.getElem?_append_left hj]⟩
theorem itoa_any (n : Int) (w : World) (hp : PowV w) (h0 : 0 ≤ n) (h1 : n ≤ 2147483647) : Calls Tryz.prog 72 #[.int .i64 n] w fun e w' => e = .returned (.string (bB (Un.dec n))) ∧ Below w.heap.size w w' := by
  refine (Tryz.strconv_Itoa n (by omega) (by omega) w hp).mono ?_
  rintro e w' ⟨rfl, k, os, rfl⟩
  exact ⟨rfl, below_growF w os k⟩
theorem dec_len : ∀ (m u : Nat), u ≤ m → (Lib.decDigits u).length ≤ u + 1
  | 0, u, h => by
    have : u = 0 := by omega
    subst this
    rw [Lib.decDigits_one (by omega)]
    exact Nat.le_refl _
  | m + 1, u, h => by
    by_cases hu : u < 10
    · rw [Lib.decDigits_one hu]
      simp
    · rw [Lib.decDigits, dif_neg hu, List.length_append]
      have := dec_len m (u / 10) (by omega)
      simp
      omega
theorem decB_len {n : Int} (h0 : 0 ≤ n) (h1 : n ≤ 2147483647) : (bB (Un.dec n)).size ≤ 2147483648 := by
  rw [← dsize, bB_data]
  obtain ⟨u, rfl⟩ : ∃ u : Nat, n = u := ⟨n.toNat, by omega⟩
  rw [Un.dec_nat]
  have := dec_len u u (Nat.le_refl _)
  omega
theorem bB_app (a b : Un.Bs) : bB a ++ bB b = bB (a ++ b) := by
  apply ba_ext
  simp [bB]
theorem rng_one (a : Int) : Un.rngT a 1 = Un.dec a := by unfold Un.rngT; rw [if_pos rfl]
theorem rng_two {a n : Int} (h : n ≠ 1) : bB (Un.dec a) ++ (⟨#[44]⟩ : ByteArray) ++ bB (Un.dec n) = bB (Un.rngT a n) := by
  rw [show (⟨#[44]⟩ : ByteArray) = bB [44] from rfl, bB_app, bB_app]
  unfold Un.rngT
  rw [if_neg h]
  simp
set_option maxHeartbeats 1000000 in
theorem rangeText_any (a n : Int) (w : World) (hp : PowV w) (ha : 0 ≤ a ∧ a ≤ 2147483647) (hn : 0 ≤ n ∧ n ≤ 2147483647) :
    Calls Tryz.prog 40 #[.int .i64 a, .int .i64 n] w fun e w' => e = .returned (.string (bB (Un.rngT a n))) ∧ Below w.heap.size w w' := by
  have HI1 := hid (itoa_any a w hp ha.1 ha.2)
  by_cases h1 : n = 1
  · subst h1
    rw [rng_one]
    generalize bB (Un.dec a) = D at HI1 ⊢
    go_enter Tryz.func40, Tryz.ntmps40
    go_wp2_with fail
    refine HI1.out.mono ?_
    rintro e w1 ⟨rfl, hb⟩
    have HB := hid hb
    clear hb
    go_wp2_with fail
    go_ret
    exact ⟨rfl, HB.out⟩
  · have e1 : (n == 1) = false := zne h1
    have HI2 := hid (fun w1 (h : PowV w1) => itoa_any n w1 h hn.1 hn.2)
    have HP := hid (fun w1 (h : Below w.heap.size w w1) => hp.below h (Nat.succ_le_of_lt hp.lt))
    have l1 := decB_len ha.1 ha.2
    have l2 := decB_len hn.1 hn.2
    have HR := hid (rng_two (a := a) h1)
    rw [← HR.out]
    generalize bB (Un.dec a) = D at HI1 l1 ⊢
    generalize bB (Un.dec n) = D2 at HI2 l2 ⊢
    clear h1 HR hp
    go_enter Tryz.func40, Tryz.ntmps40
    go_wp2_with fail
    refine HI1.out.mono ?_
    rintro e w1 ⟨rfl, hb⟩
    have HB := hid hb
    clear hb
    go_wp2_with fail
    refine (HI2.out w1 (HP.out w1 HB.out)).mono ?_
    rintro e w2 ⟨rfl, hb2⟩
    have HB2 := hid (HB.out.trans (hb2.mono HB.out.size))
    clear hb2
    go_wp2_with fail
    go_ret
    exact ⟨rfl, HB2.out⟩
/-! ### a head, a row -/
set_option maxHeartbeats 1000000 in
theorem writeHead_any {B b : Nat} {l : Un.Bs} {w : World} (h : ByteArray) (hb : BfAt B b l w) (hB : B ≤ w.heap.size) (hl : l.length + h.size + 2 ≤ 140737488355328) :
    Calls Tryz.prog 41 #[.pointer (some ⟨b, 0, none⟩), .string h] w fun e w' => e = .returned (.tuple #[]) ∧ BfAt B b (l ++ (Un.headT h.data.toList ++ [10])) w' ∧ Frm B b w w' := by
  have HB := hid hb
  have HW10 := hid (fun (l1 : Un.Bs) w1 (h1 : BfAt B b l1 w1) (hl1 : l1.length + 1 ≤ 140737488355328) (hs : B ≤ w1.heap.size) => wb10 h1 hl1 hs)
  by_cases h0 : h.size = 0
  · have he := Cx.empty_yes h h0
    have e1 : Un.headT h.data.toList = [] := by
      have : h.data.toList = [] := List.length_eq_zero_iff.1 (by rw [dsize]; exact h0)
      unfold Un.headT; rw [if_pos this]
    rw [e1]
    clear h0 e1 hb
    go_enter Tryz.func41, Tryz.ntmps41
    go_wp2_with fail
    refine (HW10.out l w HB.out (by omega) hB).mono ?_
    rintro e w1 ⟨rfl, hb1, hf1⟩
    have H1 := hid hb1
    have F1 := hid hf1
    clear hb1 hf1
    go_wp2_with fail
    exact bodyPost_end (v := .tuple #[]) (by simp [results, Tryz.results41, go_sem]) rfl ⟨rfl, H1.out, F1.out⟩
  · have he := Cx.empty_no h h0
    have e1 : Un.headT h.data.toList = 32 :: h.data.toList := by
      unfold Un.headT; rw [if_neg (fun e => h0 (by rw [← dsize, e]; rfl))]
    rw [e1]
    have HE : Hid (l ++ (32 :: h.data.toList ++ [10]) = l ++ [32] ++ h.data.toList ++ [10]) := hid (by simp)
    rw [HE.out]
    have hd := dsize h
    clear h0 e1 hb HE
    go_enter Tryz.func41, Tryz.ntmps41
    go_wp2_with fail
    refine (wb32 HB.out (by omega) hB).mono ?_
    rintro e w1 ⟨rfl, hb1, hf1⟩
    have H1 := hid hb1
    have F1 := hid hf1
    clear hb1 hf1
    go_wp2_with fail
    refine (ws_any h H1.out (by rw [List.length_append]; simp; omega) (Nat.le_trans hB F1.out.below.size)).mono ?_
    rintro e w2 ⟨rfl, hb2, hf2⟩
    have H2 := hid hb2
    have F2 := hid (F1.out.trans hf2)
    clear hb2 hf2
    go_wp2_with fail
    refine (HW10.out _ w2 H2.out (by simp; omega) (Nat.le_trans hB F2.out.below.size)).mono ?_
    rintro e w3 ⟨rfl, hb3, hf3⟩
    have H3 := hid hb3
    have F3 := hid (F2.out.trans hf3)
    clear hb3 hf3
    go_wp2_with fail
    exact bodyPost_end (v := .tuple #[]) (by simp [results, Tryz.results41, go_sem]) rfl ⟨rfl, H3.out, F3.out⟩
set_option maxHeartbeats 1000000 in
set_option maxRecDepth 100000 in
theorem writeRow_any {B b : Nat} {l : Un.Bs} {w : World} (m x : ByteArray) (hb : BfAt B b l w) (hB : B ≤ w.heap.size) (hl : l.length + m.size + x.size + 29 ≤ 140737488355328) :
    Calls Tryz.prog 42 #[.pointer (some ⟨b, 0, none⟩), .string m, .string x] w fun e w' => e = .returned (.tuple #[]) ∧ BfAt B b (l ++ (m.data.toList ++ Un.tailT x.data.toList)) w' ∧ Frm B b w w' := by
  have HB := hid hb
  have hdm := dsize m
  have hdx := dsize x
  have HWH := hid (fun w1 => Cx.whole_any x w1 (by unfold maxLen; omega))
  clear hb
  cases hw : Pl.wh x.data.toList with
  | true =>
    have HE : Hid (l ++ (m.data.toList ++ Un.tailT x.data.toList) = l ++ m.data.toList ++ x.data.toList) := hid (by unfold Un.tailT; rw [if_pos hw]; simp)
    rw [HE.out]
    rw [hw] at HWH
    clear hw HE
    go_enter Tryz.func42, Tryz.ntmps42
    go_wp2_with fail
    refine (ws_any m HB.out (by omega) hB).mono ?_
    rintro e w1 ⟨rfl, hb1, hf1⟩
    have H1 := hid hb1
    have F1 := hid hf1
    clear hb1 hf1
    go_wp2_with fail
    refine (ws_any x H1.out (by rw [List.length_append]; omega) (Nat.le_trans hB F1.out.below.size)).mono ?_
    rintro e w2 ⟨rfl, hb2, hf2⟩
    have H2 := hid hb2
    have F2 := hid (F1.out.trans hf2)
    clear hb2 hf2
    go_wp2_with fail
    refine (HWH.out w2).mono ?_
    rintro e w3 ⟨rfl, rfl⟩
    go_wp2_with fail
    exact bodyPost_end (v := .tuple #[]) (by simp [results, Tryz.results42, go_sem]) rfl ⟨rfl, H2.out, F2.out⟩
  | false =>
    have HE : Hid (l ++ (m.data.toList ++ Un.tailT x.data.toList) = l ++ m.data.toList ++ x.data.toList ++ (10 :: (Un.miss ++ [10]))) := hid (by unfold Un.tailT; rw [if_neg (by rw [hw]; simp)]; simp)
    rw [HE.out]
    rw [hw] at HWH
    have HMS : Hid ((ByteArray.mk #[10, 92, 32, 78, 111, 32, 110, 101, 119, 108, 105, 110, 101, 32, 97, 116, 32, 101, 110, 100, 32, 111, 102, 32, 102, 105, 108, 101, 10]).size = 29 ∧ (ByteArray.mk #[10, 92, 32, 78, 111, 32, 110, 101, 119, 108, 105, 110, 101, 32, 97, 116, 32, 101, 110, 100, 32, 111, 102, 32, 102, 105, 108, 101, 10]).data.toList = 10 :: (Un.miss ++ [10])) := hid ⟨by decide, by decide⟩
    clear hw HE
    go_enter Tryz.func42, Tryz.ntmps42
    go_wp2_with fail
    refine (ws_any m HB.out (by omega) hB).mono ?_
    rintro e w1 ⟨rfl, hb1, hf1⟩
    have H1 := hid hb1
    have F1 := hid hf1
    clear hb1 hf1
    go_wp2_with fail
    refine (ws_any x H1.out (by rw [List.length_append]; omega) (Nat.le_trans hB F1.out.below.size)).mono ?_
    rintro e w2 ⟨rfl, hb2, hf2⟩
    have H2 := hid hb2
    have F2 := hid (F1.out.trans hf2)
    clear hb2 hf2
    go_wp2_with fail
    refine (HWH.out w2).mono ?_
    rintro e w3 ⟨rfl, rfl⟩
    go_wp2_with fail
    refine (ws_any ⟨#[10, 92, 32, 78, 111, 32, 110, 101, 119, 108, 105, 110, 101, 32, 97, 116, 32, 101, 110, 100, 32, 111, 102, 32, 102, 105, 108, 101, 10]⟩ H2.out (by rw [HMS.out.1]; simp only [List.length_append]; omega) (Nat.le_trans hB F2.out.below.size)).mono ?_
    rintro e w4 ⟨rfl, hb4, hf4⟩
    have H4 := hid hb4
    have F4 := hid (F2.out.trans hf4)
    rw [HMS.out.2] at H4
    clear hb4 hf4
    go_wp2_with fail
    exact bodyPost_end (v := .tuple #[]) (by simp [results, Tryz.results42, go_sem]) rfl ⟨rfl, H4.out, F4.out⟩
end Go.Proofs.YtkolgglllladfaaGreatDoor
