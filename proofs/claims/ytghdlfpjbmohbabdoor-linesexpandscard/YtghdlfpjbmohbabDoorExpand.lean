/-
  The walks of the program's expandByte and Expand: for every text and every width.
-/
import Derived.Test.YtghdlfpjbmohbabDoorSure
import Derived.Test.YtghdlfpjbmohbabDoorPlExp
import Derived.Lib.Repeat
namespace Go.Proofs.YtghdlfpjbmohbabDoor
open Go.RowKit

theorem repeat_blank : ∀ n, Lib.repeatL [32] n = List.replicate n 32
  | 0 => rfl
  | n + 1 => by rw [Lib.repeatL, repeat_blank n]; rfl
theorem builder_stays {T e : TypeId} {B b : Nat} {bs : List Value} {w w' : World} (h : Lib.IsBuilder T e B b bs w) (hb : Below w.heap.size w w') : Lib.IsBuilder T e B b bs w' := by
  have key : ∀ p, Lib.BuilderAt T e B b p bs w → Lib.BuilderAt T e B b p bs w' := by
    rintro p ⟨hB, v, hbk, hown, hne⟩
    have h1 : b < w.heap.size := by
      rcases Nat.lt_or_ge b w.heap.size with k | k
      · exact k
      · rw [Array.getElem?_eq_none k] at hbk; cases hbk
    refine ⟨hB, v, (hb.block b h1).trans hbk, ⟨hown.1, ?_⟩, hne⟩
    rcases hown.2 with h | ⟨g, cap, cur, hv, hg, hh, r⟩
    · exact .inl h
    · have h2 : g < w.heap.size := by
        rcases Nat.lt_or_ge g w.heap.size with k | k
        · exact k
        · rw [Array.getElem?_eq_none k] at hh; cases hh
      exact .inr ⟨g, cap, cur, hv, hg, (hb.block g h2).trans hh, r⟩
  rcases h with h | h
  · exact .inl (key _ h)
  · exact .inr (key _ h)

theorem byte_num (c : UInt8) (n : Nat) (hn : n < 256) : ((c.toNat : Int) == (n : Int)) = decide (c = n.toUInt8) := by
  rw [Bool.eq_iff_iff, beq_iff_eq, decide_eq_true_eq, ← UInt8.toNat_inj]
  have : n.toUInt8.toNat = n := by simp; omega
  rw [this]
  omega

set_option maxHeartbeats 1000000 in
theorem expandByte_any (B b : Nat) (l : List UInt8) (c : UInt8) (col wd : Nat) (w : World) (h : Lib.IsBuilder 35 5 B b (Lib.byteCells l) w) (hl : l.length ≤ 8388608) (hc : col ≤ 8388608) (h1 : 1 ≤ wd) (h2 : wd ≤ 255) (hB : B ≤ w.heap.size) :
    Calls Tryd.prog 9 #[.pointer (some ⟨b, 0, none⟩), .int .u8 c.toNat, .int .i64 col, .int .i64 wd] w fun e w' =>
      e = .returned (.int .i64 (Pl.stepE wd (l, col) c).2) ∧ Lib.IsBuilder 35 5 B b (Lib.byteCells (Pl.stepE wd (l, col) c).1) w' ∧ Below B w w' := by
  have hb1 : (Lib.byteCells l).length + 1 ≤ 140737488355328 := by rw [Lib.byteCells_length]; omega
  have hcell : ∀ c : UInt8, Lib.byteCells l ++ [.int .u8 c.toNat] = Lib.byteCells (l ++ [c]) := fun c => by rw [Lib.byteCells_append]; rfl
  by_cases h10 : c = 10
  · subst h10
    have he := hid (Pl.step_end wd (l, col))
    rw [he.out]
    have HC := hid (hcell 10)
    have HH := hid h
    clear hcell h
    go_enter Tryd.func9, Tryd.ntmps9
    go_wp2_with fail
    refine (Tryd.Builder_WriteByte B b _ _ _ HH.out hb1 hB).mono ?_
    rintro e w1 ⟨rfl, hA, hb⟩
    go_wp2
    go_ret
    exact ⟨rfl, by rw [← HC.out]; exact .inr hA, hb⟩
  · by_cases h9 : c = 9
    · subst h9
      have he := hid (Pl.step_tab wd (l, col))
      rw [he.out]
      have hm : col % wd < wd := Nat.mod_lt _ (by omega)
      have hq : ((wd : Int) - (col : Int) % (wd : Int)) = ((wd - col % wd : Nat) : Int) := by omega
      have hq1 : wd - col % wd ≤ 255 := by omega
      have HH := hid h
      clear hcell h h10 he
      obtain ⟨q, hqe⟩ : ∃ q, q = wd - col % wd := ⟨_, rfl⟩
      rw [← hqe] at hq1 hq ⊢
      have HQ := hid hq
      have hr1 : q ≤ 9223372036854775807 := by omega
      have hr2 : (ByteArray.mk #[32]).size * q ≤ 140737488355328 := by
        have e1 : (ByteArray.mk #[32]).size = 1 := rfl
        rw [e1]; omega
      have hrep := Tryd.strings_Repeat ⟨#[32]⟩ q w hr1 hr2
      have HREP := hid hrep
      clear hqe hq hr1 hr2 hrep
      go_enter Tryd.func9, Tryd.ntmps9
      go_wp2_with fail
      rw [HQ.out]
      clear HQ
      refine HREP.out.mono ?_
      rintro e w1 ⟨rfl, hb2⟩
      have HH2 := hid (builder_stays HH.out hb2)
      have hz := hb2.size
      have hs : Lib.strCells ⟨(Lib.repeatL (ByteArray.mk #[32]).data.toList q).toArray⟩ = Lib.byteCells (List.replicate q 32) := by
        show List.map _ (Lib.repeatL [32] q).toArray.toList = _
        rw [List.toList_toArray, repeat_blank]
        rfl
      have hss : (ByteArray.mk (Lib.repeatL (ByteArray.mk #[32]).data.toList q).toArray).size = q := by
        show (Lib.repeatL [32] q).toArray.size = q
        rw [repeat_blank]
        simp
      generalize ByteArray.mk (Lib.repeatL (ByteArray.mk #[32]).data.toList q).toArray = R at hs hss ⊢
      have HS := hid hs
      have HSS := hid hss
      clear hs hss
      go_wp2_with fail
      refine (Tryd.Builder_WriteString B b _ _ _ HH2.out (by rw [HSS.out, Lib.byteCells_length]; omega) (by omega)).mono ?_
      rintro e w2 ⟨rfl, hA, hb3⟩
      go_wp2
      go_ret
      refine ⟨?_, ?_, (hb2.mono hB).trans hb3⟩
      · rfl
      · rw [Lib.byteCells_append, ← HS.out]; exact .inr hA
    · have n10 : ((c.toNat : Int) == 10) = false := by rw [show (10 : Int) = ((10 : Nat) : Int) from rfl, byte_num c 10 (by omega)]; exact decide_eq_false h10
      have n9 : ((c.toNat : Int) == 9) = false := by rw [show (9 : Int) = ((9 : Nat) : Int) from rfl, byte_num c 9 (by omega)]; exact decide_eq_false h9
      have he := hid (Pl.step_else wd (l, col) c h10 h9)
      rw [he.out]
      have HC := hid (hcell c)
      have HH := hid h
      clear hcell h h10 h9
      go_enter Tryd.func9, Tryd.ntmps9
      go_wp2_with fail
      refine (Tryd.Builder_WriteByte B b _ _ _ HH.out hb1 hB).mono ?_
      rintro e w1 ⟨rfl, hA, hb⟩
      go_wp2
      go_ret
      exact ⟨rfl, by rw [← HC.out]; exact .inr hA, hb⟩

/-- Expand's answer -/
def expAns (s : ByteArray) (wd : Int) : Value × Value :=
  if wd < 1 ∨ 255 < wd then (.string ⟨#[]⟩, .iface 31 (.int .i64 1))
  else if 4194304 < (Pl.ex wd.toNat s.data.toList).1.length then (.string ⟨#[]⟩, .iface 31 (.int .i64 2))
  else (.string ⟨(Pl.ex wd.toNat s.data.toList).1.toArray⟩, .nilIface)

set_option maxHeartbeats 400000 in
theorem expand_arg (s : ByteArray) (wd : Int) (w : World) (h : wd < 1 ∨ 255 < wd) :
    Calls Tryd.prog 4 #[.string s, .int .i64 wd] w fun e w' => e = .returned (.tuple #[.string ⟨#[]⟩, .iface 31 (.int .i64 1)]) ∧ w' = w := by
  by_cases h1 : wd < 1
  · go_enter Tryd.func4, Tryd.ntmps4
    go_wp2
    go_ret2
    exact ⟨rfl, rfl⟩
  · have h2 : 255 < wd := by omega
    go_enter Tryd.func4, Tryd.ntmps4
    go_wp2
    go_ret2
    exact ⟨rfl, rfl⟩

set_option maxHeartbeats 400000 in
theorem expand_long (s : ByteArray) (wd : Nat) (w : World) (h1 : 1 ≤ wd) (h2 : wd ≤ 255) (hs : 4194304 < s.size) (_hs2 : s.size ≤ maxLen) :
    Calls Tryd.prog 4 #[.string s, .int .i64 wd] w fun e w' => e = .returned (.tuple #[.string ⟨#[]⟩, .iface 31 (.int .i64 2)]) ∧ w' = w := by
  go_enter Tryd.func4, Tryd.ntmps4
  go_wp2
  go_ret2
  exact ⟨rfl, rfl⟩

theorem ex_at (s : ByteArray) (wd k : Nat) (h : k < s.size) : Pl.ex wd (s.data.toList.take (k + 1)) = Pl.stepE wd (Pl.ex wd (s.data.toList.take k)) s[k] := by
  rw [take_snoc s k h, Pl.ex_snoc]

set_option maxHeartbeats 2000000 in
theorem expand_in (s : ByteArray) (wd : Nat) (w : World) (h1 : 1 ≤ wd) (h2 : wd ≤ 255) (hs : s.size ≤ 4194304) :
    Calls Tryd.prog 4 #[.string s, .int .i64 wd] w fun e w' =>
      ∃ t u, e = .returned (.tuple #[t, u]) ∧ (4194304 < (Pl.ex wd s.data.toList).1.length → t = .string ⟨#[]⟩ ∧ u = .iface 31 (.int .i64 2)) ∧
        (¬ 4194304 < (Pl.ex wd s.data.toList).1.length → t = .string ⟨(Pl.ex wd s.data.toList).1.toArray⟩ ∧ u = .nilIface) ∧ Below w.heap.size w w' := by
  have d1 : decide ((wd : Int) < 1) = false := decide_eq_false (by omega)
  have d2 : decide ((255 : Int) < wd) = false := decide_eq_false (by omega)
  have d3 : decide ((4194304 : Int) < s.size) = false := decide_eq_false (by omega)
  go_enter Tryd.func4, Tryd.ntmps4
  go_wp2_with fail
  refine (Tryd.Builder_Grow_fresh w.heap.size w.heap.size s.size _ (Nat.le_refl _) (heap_alloc_new _ _) (by simp) (by omega)).mono ?_
  rintro e w1 ⟨rfl, hA, hb⟩
  have hb1 : Below w.heap.size w w1 := ((Below.refl _ _).alloc (Nat.le_refl _) _).trans hb
  have hI : Lib.IsBuilder 35 5 w.heap.size w.heap.size (Lib.byteCells []) w1 := .inr hA
  clear hA hb
  have HI := hid hI
  clear hI
  go_wp2
  go_loopw [7, 25] (fun c i wr => ∃ k : Nat, k ≤ s.size ∧ i = .int .i64 k ∧ c = .int .i64 (Pl.ex wd (s.data.toList.take k)).2 ∧ (Pl.ex wd (s.data.toList.take k)).1.length ≤ 4194304 ∧
      Lib.IsBuilder 35 5 w.heap.size w.heap.size (Lib.byteCells (Pl.ex wd (s.data.toList.take k)).1) wr ∧ Below w.heap.size w wr) (fun _ i _ => s.size - (intOf i).toNat)
  case atStart => exact ⟨0, Nat.zero_le _, rfl, rfl, Nat.zero_le _, HI.out, hb1⟩
  case round =>
    obtain ⟨k, hk, rfl, rfl, hlen, hI, hb⟩ := hrel
    clear HI hb1
    have hz := hb.size
    have HI := hid hI
    clear hI
    by_cases hlt : k < s.size
    · have hst := hid (ex_at s wd k hlt)
      have hcol := (Pl.ex_all wd h1 h2 (s.data.toList.take k)).2.2.1
      have htk := Pl.ex_take wd h1 h2 s.data.toList (k + 1)
      obtain ⟨st, hste⟩ : ∃ st, st = Pl.ex wd (s.data.toList.take k) := ⟨_, rfl⟩
      rw [← hste] at HI hst hlen hcol ⊢
      clear hste
      obtain ⟨l, col⟩ := st
      simp only at hlen hcol HI ⊢
      go_wp2_with fail
      refine (expandByte_any _ _ l s[k] col wd _ HI.out (by omega) (by omega) h1 h2 hz).mono ?_
      rintro e w2 ⟨rfl, hI2, hb2⟩
      rw [← hst.out] at hI2 ⊢
      have HI2 := hid hI2
      clear hI2
      go_wp2_with fail
      refine (Tryd.Builder_Len _ _ _ _ HI2.out).mono ?_
      rintro e w3 ⟨rfl, rfl⟩
      rw [Lib.byteCells_length]
      by_cases hov : 4194304 < (Pl.ex wd (s.data.toList.take (k + 1))).1.length
      · have hfin : 4194304 < (Pl.ex wd s.data.toList).1.length := by omega
        have dv : decide ((4194304 : Int) < ((Pl.ex wd (s.data.toList.take (k + 1))).1.length : Int)) = true := decide_eq_true (by omega)
        have HF := hid hfin
        clear hfin
        go_wp2
        go_ret2
        exact ⟨_, _, rfl, fun _ => ⟨rfl, rfl⟩, fun h => absurd HF.out h, hb.trans hb2⟩
      · have dv : decide ((4194304 : Int) < ((Pl.ex wd (s.data.toList.take (k + 1))).1.length : Int)) = false := decide_eq_false (by omega)
        go_wp2
        go_roundw
        case rel => exact ⟨k + 1, by omega, by go_num, rfl, by omega, HI2.out, hb.trans hb2⟩
        case measure => simp [intOf]; omega
    · have hall : s.data.toList.take k = s.data.toList := List.take_of_length_le (by rw [size_data]; omega)
      rw [hall] at HI hlen
      have HL := hid hlen
      clear hall hlen
      go_wp2_with fail
      refine (Tryd.Builder_String_any _ _ _ _ HI.out hz).mono ?_
      rintro e w2 ⟨rfl, hb2⟩
      go_wp2
      go_ret2
      exact ⟨_, _, rfl, fun h => absurd HL.out (by omega), fun _ => ⟨rfl, rfl⟩, hb.trans hb2⟩
end Go.Proofs.YtghdlfpjbmohbabDoor
