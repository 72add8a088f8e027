/-
  Builders for counts; the walks of the program's writeBlanks.
-/
import Derived.Test.YtnbonghlmdnabaaDoorB7
import Derived.Lib.Repeat
import Derived.Lib.OthersKept
import Derived.Shelf.Strings.BuilderK
namespace Go.Proofs.YtnbonghlmdnabaaDoor.Sx
open Go.RowKit

/-- a builder and what it holds -/
def BfAt (B b : Nat) (l : Bs) (w : World) : Prop := Lib.IsBuilderF 51 5 B b (Lib.byteCells l) w
/-- what writing leaves as it was -/
structure Frm (B b : Nat) (w w' : World) : Prop where
  below : Below B w w'
  others : Lib.OthersKept 5 (some b) w w'
theorem Frm.refl (B b : Nat) (w : World) : Frm B b w w := ⟨Below.refl _ _, Lib.OthersKept.refl _ _ _⟩
theorem Frm.trans {B b : Nat} {x y z : World} (h : Frm B b x y) (k : Frm B b y z) : Frm B b x z := ⟨h.below.trans k.below, h.others.trans k.others⟩
theorem Frm.of {B b : Nat} {w w' : World} (h : Below w.heap.size w w') (hB : B ≤ w.heap.size) : Frm B b w w' :=
  ⟨h.mono hB, fun k _ hk _ _ => (h.block k (lt_of_heap hk)).trans hk⟩
theorem Frm.box {B b k : Nat} {w w' : World} {cs : Array Value} {t : TypeId} (h : Frm B b w w') (hk : w.heap[k]? = some (.cells cs t)) (hne : k ≠ b) (ht : t ≠ 5) : w'.heap[k]? = some (.cells cs t) :=
  h.others k _ hk (fun e => hne (Option.some.inj e)) (fun c fz e => ht (by injection e))
theorem BfAt.below {B b : Nat} {l : Bs} {w w' : World} (h : BfAt B b l w) (hb : Below w.heap.size w w') : BfAt B b l w' := by
  have key : ∀ p, Lib.BuilderAtF 51 5 B b p (Lib.byteCells l) w → Lib.BuilderAtF 51 5 B b p (Lib.byteCells l) w' := by
    rintro p ⟨hB, v, hbk, hown, hne⟩
    refine ⟨hB, v, (hb.block b (lt_of_heap hbk)).trans hbk, ⟨hown.1, ?_⟩, hne⟩
    rcases hown.2 with h | ⟨g, cap, cur, fz, hv, hg, hh, r⟩
    · exact .inl h
    · exact .inr ⟨g, cap, cur, fz, hv, hg, (hb.block g (lt_of_heap hh)).trans hh, r⟩
  rcases h with h | h
  · exact .inl (key _ h)
  · exact .inr (key _ h)
theorem BfAt.lt {B b : Nat} {l : Bs} {w : World} (h : BfAt B b l w) : b < w.heap.size ∧ B ≤ b := by
  rcases h with ⟨hB, v, hbk, _⟩ | ⟨hB, v, hbk, _⟩
  · exact ⟨lt_of_heap hbk, hB⟩
  · exact ⟨lt_of_heap hbk, hB⟩
theorem ws_any {B b : Nat} {l : Bs} {w : World} (s : ByteArray) (h : BfAt B b l w) (hl : l.length + s.size ≤ 140737488355328) (hB : B ≤ w.heap.size) :
    Calls Tryd.prog 14 #[.pointer (some ⟨b, 0, none⟩), .string s] w fun e w' => e = .returned (.tuple #[.int .i64 s.size, .nilIface]) ∧ BfAt B b (l ++ s.data.toList) w' ∧ Frm B b w w' := by
  refine (Any.Builder_WriteString_k Tryd.laysm166 Tryd.Extra_m166 B b (Lib.byteCells l) s w h (by rw [Lib.byteCells_length]; exact hl) hB).mono ?_
  rintro e w' ⟨rfl, hA, hb, ho⟩
  refine ⟨rfl, .inr ?_, hb, ho⟩
  rw [Lib.byteCells_append]
  exact hA
theorem wb_any {B b : Nat} {l : Bs} {w : World} (c : UInt8) (h : BfAt B b l w) (hl : l.length + 1 ≤ 140737488355328) (hB : B ≤ w.heap.size) :
    Calls Tryd.prog 29 #[.pointer (some ⟨b, 0, none⟩), .int .u8 (c.toNat : Nat)] w fun e w' => e = .returned .nilIface ∧ BfAt B b (l ++ [c]) w' ∧ Frm B b w w' := by
  refine (Any.Builder_WriteByte_k Tryd.laysm167 Tryd.Extra_m167 B b (Lib.byteCells l) (c.toNat : Nat) w h (by rw [Lib.byteCells_length]; exact hl) hB).mono ?_
  rintro e w' ⟨rfl, hA, hb, ho⟩
  refine ⟨rfl, .inr ?_, hb, ho⟩
  rw [Lib.byteCells_append]
  exact hA
theorem wb10 {B b : Nat} {l : Bs} {w : World} (h : BfAt B b l w) (hl : l.length + 1 ≤ 140737488355328) (hB : B ≤ w.heap.size) :
    Calls Tryd.prog 29 #[.pointer (some ⟨b, 0, none⟩), .int .u8 10] w fun e w' => e = .returned .nilIface ∧ BfAt B b (l ++ [10]) w' ∧ Frm B b w w' := wb_any 10 h hl hB
theorem rep_len (n : Nat) (c : UInt8) : (rep n c).length = n := List.length_replicate ..
theorem repL_eq (c : UInt8) : ∀ n, Lib.repeatL [c] n = rep n c
  | 0 => rfl
  | n + 1 => by rw [Lib.repeatL, repL_eq c n]; rfl
theorem repeat_any (c : UInt8) (n : Nat) (w : World) (hn : n ≤ 140737488355328) :
    Calls Tryd.prog 52 #[.string ⟨#[c]⟩, .int .i64 (n : Int)] w fun e w' => e = .returned (.string (bB (rep n c))) ∧ Below w.heap.size w w' := by
  have hs : (ByteArray.mk #[c]).size = 1 := rfl
  refine (Tryd.strings_Repeat ⟨#[c]⟩ n w (by omega) (by rw [hs]; omega)).mono ?_
  rintro e w' ⟨rfl, hb⟩
  refine ⟨?_, hb⟩
  rw [← repL_eq c n]
  rfl
theorem writeBlanks_any {B b : Nat} {l : Bs} {w : World} (n : Nat) (h : BfAt B b l w) (hB : B ≤ w.heap.size) (hl : l.length + n ≤ 140737488355328) :
    Calls Tryd.prog 51 #[.pointer (some ⟨b, 0, none⟩), .int .i64 (n : Int)] w fun e w' => e = .returned (.tuple #[]) ∧ BfAt B b (l ++ rep n 32) w' ∧ Frm B b w w' := by
  have HR := hid (repeat_any 32 n w (by omega))
  have HH := hid h
  have HL := hid hl
  have hz : (bB (rep n 32)).size = n := by rw [bB_size, rep_len]
  have HZ := hid hz
  have HD : Hid ((bB (rep n 32)).data.toList = rep n 32) := hid (bB_data _)
  generalize bB (rep n 32) = R at HR HZ HD hz
  clear h hl hz
  go_enter Tryd.func51, Tryd.ntmps51
  go_wp2_with fail
  refine HR.out.mono ?_
  rintro e w1 ⟨rfl, hb1⟩
  have HF1 := hid (Frm.of (b := b) hb1 hB)
  have HW := hid (ws_any R (HH.out.below hb1) (by rw [HZ.out]; exact HL.out) (Nat.le_trans hB hb1.size))
  clear hb1 HR
  go_wp2_with fail
  refine HW.out.mono ?_
  rintro e w2 ⟨rfl, hA2, hF2⟩
  have HA2 := hid hA2
  have HF2 := hid (HF1.out.trans hF2)
  clear hA2 hF2 HW
  go_wp2
  exact bodyPost_end (v := .tuple #[]) (results_none Tryd.results51 _ _ _) rfl ⟨rfl, by rw [← HD.out]; exact HA2.out, HF2.out⟩

/-! ### numbers' lengths -/
theorem nDigits_mono : ∀ (m x y : Nat), x ≤ m → x ≤ y → Lib.nDigits x ≤ Lib.nDigits y
  | 0, x, y, h, _ => by rw [Lib.nDigits_small (u := x) (by omega)]; exact Lib.nDigits_pos y
  | m + 1, x, y, h, hxy => by
    by_cases hx : x < 10
    · rw [Lib.nDigits_small hx]; exact Lib.nDigits_pos y
    · rw [Lib.nDigits_big hx, Lib.nDigits_big (u := y) (by omega)]
      have := nDigits_mono m (x / 10) (y / 10) (by omega) (by omega)
      omega
theorem dec_mono {x y : Int} (h0 : 0 ≤ x) (h : x ≤ y) : (dec x).length ≤ (dec y).length := by
  unfold dec Lib.itoa
  rw [if_neg (by omega), if_neg (by omega), Lib.decDigits_length, Lib.decDigits_length]
  exact nDigits_mono _ _ _ (Nat.le_refl _) (by omega)
end Go.Proofs.YtnbonghlmdnabaaDoor.Sx
