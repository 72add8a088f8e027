/-
  Builders: what writing keeps; the walks of writePieces, writeMarked; the laws' same.
-/
import Derived.Test.YtgpgpopefmkpoaaDoorS4
import Derived.Test.YtgpgpopefmkpoaaDoorShelf
import Derived.Shelf.Strings.BuilderK
import Derived.Lib.OthersKept
namespace Go.Proofs.YtgpgpopefmkpoaaDoor
open Go.RowKit

/-- a builder and what it holds -/
def BfAt (B b : Nat) (l : Sd.Bs) (w : World) : Prop := Lib.IsBuilderF 62 5 B b (Lib.byteCells l) w
/-- what writing leaves as it was -/
structure Frm (B b : Nat) (w w' : World) : Prop where
  below : Below B w w'
  others : Lib.OthersKept 5 (some b) w w'
theorem Frm.refl (B b : Nat) (w : World) : Frm B b w w := ⟨Below.refl _ _, Lib.OthersKept.refl _ _ _⟩
theorem Frm.trans {B b : Nat} {x y z : World} (h : Frm B b x y) (k : Frm B b y z) : Frm B b x z := ⟨h.below.trans k.below, h.others.trans k.others⟩
theorem Frm.of {B b : Nat} {w w' : World} (h : Below w.heap.size w w') (hB : B ≤ w.heap.size) : Frm B b w w' :=
  ⟨h.mono hB, fun k _ hk _ _ => (h.block k (lt_of_heap hk)).trans hk⟩
theorem Frm.box {B b k : Nat} {w w' : World} {cs : Array Value} {t : TypeId} (h : Frm B b w w') (hk : w.heap[k]? = some (.cells cs t)) (hne : k ≠ b) (ht : t ≠ 5) : w'.heap[k]? = some (.cells cs t) :=
  h.others k _ hk (fun e => hne (Option.some.inj e)) (fun c fz e => ht (by injection e))
theorem BfAt.below {B b : Nat} {l : Sd.Bs} {w w' : World} (h : BfAt B b l w) (hb : Below w.heap.size w w') : BfAt B b l w' := by
  have key : ∀ p, Lib.BuilderAtF 62 5 B b p (Lib.byteCells l) w → Lib.BuilderAtF 62 5 B b p (Lib.byteCells l) w' := by
    rintro p ⟨hB, v, hbk, hown, hne⟩
    refine ⟨hB, v, (hb.block b (lt_of_heap hbk)).trans hbk, ⟨hown.1, ?_⟩, hne⟩
    rcases hown.2 with h | ⟨g, cap, cur, fz, hv, hg, hh, r⟩
    · exact .inl h
    · exact .inr ⟨g, cap, cur, fz, hv, hg, (hb.block g (lt_of_heap hh)).trans hh, r⟩
  rcases h with h | h
  · exact .inl (key _ h)
  · exact .inr (key _ h)
theorem BfAt.lt {B b : Nat} {l : Sd.Bs} {w : World} (h : BfAt B b l w) : b < w.heap.size ∧ B ≤ b := by
  rcases h with ⟨hB, v, hbk, _⟩ | ⟨hB, v, hbk, _⟩
  · exact ⟨lt_of_heap hbk, hB⟩
  · exact ⟨lt_of_heap hbk, hB⟩
theorem ws_any {B b : Nat} {l : Sd.Bs} {w : World} (s : ByteArray) (h : BfAt B b l w) (hl : l.length + s.size ≤ 140737488355328) (hB : B ≤ w.heap.size) :
    Calls Tryd.prog 36 #[.pointer (some ⟨b, 0, none⟩), .string s] w fun e w' => e = .returned (.tuple #[.int .i64 s.size, .nilIface]) ∧ BfAt B b (l ++ s.data.toList) w' ∧ Frm B b w w' := by
  refine (Any.Builder_WriteString_k Tryd.laysm166 Tryd.Extra_m166 B b (Lib.byteCells l) s w h (by rw [Lib.byteCells_length]; exact hl) hB).mono ?_
  rintro e w' ⟨rfl, hA, hb, ho⟩
  refine ⟨rfl, .inr ?_, hb, ho⟩
  rw [Lib.byteCells_append]
  exact hA

/-- strings one behind the other -/
def flatB (L : List ByteArray) : Sd.Bs := (L.map (·.data.toList)).flatten
theorem flatB_take {L : List ByteArray} {k : Nat} {x : ByteArray} (h : L[k]? = some x) : flatB (L.take (k + 1)) = flatB (L.take k) ++ x.data.toList := by
  unfold flatB
  rw [List.take_add_one, h, List.map_append, List.flatten_append]
  simp
theorem flatB_le (L : List ByteArray) (k : Nat) : (flatB (L.take k)).length ≤ (flatB L).length := by
  have e : flatB L = flatB (L.take k) ++ flatB (L.drop k) := by
    unfold flatB
    rw [← List.flatten_append, ← List.map_append, List.take_append_drop]
  rw [e, List.length_append]
  omega

set_option maxHeartbeats 2000000 in
theorem writePieces_any {B b : Nat} {l : Sd.Bs} {w : World} {v : Value} {L : List ByteArray} (h : BfAt B b l w) (hr : RdT w v L) (hu : Under B v) (hB : B ≤ w.heap.size) (hL : L.length ≤ 1099511627776) (hl : l.length + (flatB L).length ≤ 140737488355328) :
    Calls Tryd.prog 44 #[.pointer (some ⟨b, 0, none⟩), v] w fun e w' => e = .returned (.tuple #[]) ∧ BfAt B b (l ++ flatB L) w' ∧ Frm B b w w' := by
  obtain ⟨a, c, rfl⟩ := hr.shape
  obtain ⟨n, hn⟩ : ∃ n, n = L.length := ⟨_, rfl⟩
  have HR := hid hr
  have HU := hid hu
  have HH := hid h
  have HN := hid hn
  have HL := hid hl
  rw [← hn] at HR HU hL ⊢
  clear hr hu h hn hl
  go_enter Tryd.func44, Tryd.ntmps44
  go_wp2
  go_loopw [8] (fun i wr => ∃ k : Nat, k ≤ n ∧ i = .int .i64 k ∧ Hid (BfAt B b (l ++ flatB (L.take k)) wr) ∧ Hid (Frm B b w wr)) (fun i _ => n - (intOf i).toNat)
  case atStart => exact ⟨0, Nat.zero_le _, rfl, hid (by rw [List.take_zero, show flatB [] = [] from rfl, List.append_nil]; exact HH.out), hid (Frm.refl _ _ _)⟩
  case round =>
    obtain ⟨k, hk, rfl, HA, HF⟩ := hrel
    by_cases hlt : k < n
    · obtain ⟨x, hx⟩ : ∃ x, L[k]? = some x := ⟨_, List.getElem?_eq_getElem (by have := HN.out; omega)⟩
      have hr2 : RdT wr (.slice a n c) L := by
        have hq := HR.out
        have hq2 := HU.out
        exact RdX.keep hq hq2 HF.out.below
      obtain ⟨b1, o1, e1, hb1, d1⟩ := rdT_at hr2 hx
      subst e1
      have HT := hid (flatB_take hx)
      have hle := flatB_le L (k + 1)
      rw [HT.out, List.length_append, dsize] at hle
      have HW := hid (ws_any x HA.out (by have := HL.out; rw [List.length_append]; omega) (Nat.le_trans hB HF.out.below.size))
      have i1 : (0 : Int) ≤ (k : Int) := by omega
      have i2 : (k : Int) < (n : Int) := by omega
      clear hr2 hx hle
      go_wp2_with fail
      refine HW.out.mono ?_
      rintro e w2 ⟨rfl, hA2, hF2⟩
      have HA2 : Hid (BfAt B b (l ++ flatB (L.take (k + 1))) w2) := hid (by rw [HT.out, ← List.append_assoc]; exact hA2)
      have HF2 := hid (HF.out.trans hF2)
      clear hA2 hF2 HW
      go_wp2
      go_roundw
      case rel => exact ⟨k + 1, by omega, by go_num, HA2, HF2⟩
      case measure => simp [intOf]; omega
    · have HE : Hid (L.take k = L) := hid (List.take_of_length_le (by have := HN.out; omega))
      rw [HE.out] at HA
      go_wp2
      exact bodyPost_end (v := .tuple #[]) (results_none Tryd.results44 _ _ _) rfl ⟨rfl, HA.out, HF.out⟩
/-- strings between two marks; of none nothing -/
def markB (o : Sd.Bs) (L : List ByteArray) (c : Sd.Bs) : Sd.Bs := if L.length = 0 then [] else o ++ flatB L ++ c

set_option maxHeartbeats 2000000 in
theorem writeMarked_any {B b : Nat} {l : Sd.Bs} {w : World} {v : Value} {L : List ByteArray} (x y : ByteArray) (h : BfAt B b l w) (hr : RdT w v L) (hu : Under B v) (hB : B ≤ w.heap.size) (hL : L.length ≤ 1099511627776) (hl : l.length + x.size + (flatB L).length + y.size ≤ 140737488355328) :
    Calls Tryd.prog 45 #[.pointer (some ⟨b, 0, none⟩), .string x, v, .string y] w fun e w' => e = .returned (.tuple #[]) ∧ BfAt B b (l ++ markB x.data.toList L y.data.toList) w' ∧ Frm B b w w' := by
  obtain ⟨a, c, rfl⟩ := hr.shape
  by_cases h0 : L.length = 0
  · have HE : Hid (l ++ markB x.data.toList L y.data.toList = l) := hid (by unfold markB; rw [if_pos h0, List.append_nil])
    rw [h0]
    have HH := hid h
    clear h hr hu hl hL h0
    go_enter Tryd.func45, Tryd.ntmps45
    go_wp2
    exact bodyPost_ret (v := .tuple #[]) (results_none Tryd.results45 _ _ _) rfl ⟨rfl, by rw [HE.out]; exact HH.out, Frm.refl _ _ _⟩
  · have HE : Hid (l ++ markB x.data.toList L y.data.toList = l ++ x.data.toList ++ flatB L ++ y.data.toList) := hid (by unfold markB; rw [if_neg h0]; simp)
    obtain ⟨n, hn⟩ : ∃ n, n = L.length := ⟨_, rfl⟩
    have q0 : ((n : Int) == 0) = false := ine (m := 0) (by omega)
    have HR := hid hr
    have HU := hid hu
    have HL := hid hL
    rw [← hn] at HR HU ⊢
    have HS := hid hl
    have H1 := hid (ws_any x h (by omega) hB)
    clear h hr hu hl hL hn h0
    go_enter Tryd.func45, Tryd.ntmps45
    go_wp2_with fail
    refine H1.out.mono ?_
    rintro e w1 ⟨rfl, hA1, hF1⟩
    have HF1 := hid hF1
    have H2 := hid (writePieces_any (L := L) hA1 (RdX.keep HR.out HU.out hF1.below) HU.out (Nat.le_trans hB hF1.below.size) HL.out (by have := HS.out; rw [List.length_append, dsize]; omega))
    clear hA1 hF1 H1
    go_wp2_with fail
    refine H2.out.mono ?_
    rintro e w2 ⟨rfl, hA2, hF2⟩
    have HF2 := hid (HF1.out.trans hF2)
    have H3 := hid (ws_any y hA2 (by have := HS.out; rw [List.length_append, List.length_append, dsize]; omega) (Nat.le_trans hB HF2.out.below.size))
    clear hA2 hF2 H2
    go_wp2_with fail
    refine H3.out.mono ?_
    rintro e w3 ⟨rfl, hA3, hF3⟩
    have HA3 := hid hA3
    have HF3 := hid (HF2.out.trans hF3)
    clear hA3 hF3 H3
    go_wp2
    exact bodyPost_end (v := .tuple #[]) (results_none Tryd.results45 _ _ _) rfl ⟨rfl, by rw [HE.out]; exact HA3.out, HF3.out⟩
end Go.Proofs.YtgpgpopefmkpoaaDoor
