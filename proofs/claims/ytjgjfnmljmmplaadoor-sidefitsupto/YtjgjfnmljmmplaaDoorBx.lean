/-
  A builder that lies at the head of a struct: copyCheck, WriteString, WriteByte, String, over the struct's block.
-/
import Derived.Test.YtjgjfnmljmmplaaDoorC0
import Derived.Test.YtjgjfnmljmmplaaDoorSa
import Derived.Lib.AppendStr
import Derived.Lib.UnsafeStr
import Derived.Lib.OthersKept
import Derived.Deep.AppendLies
import Derived.Shelf.Strings.BuilderK
namespace Go.Proofs.YtjgjfnmljmmplaaDoor
namespace Bx
open Go.RowKit
abbrev Bs := List UInt8

theorem infoByteB : (Tryd.prog.info? 5).map (fun i => (i.zero, i.size, i.bytes)) = some (some (.int .u8 0), 1, 1) := by kernel_rfl
theorem infoBuilderB : (Tryd.prog.info? 57).map (·.size) = some 2 := by kernel_rfl
/-- a struct of n cells of type T may begin with a builder -/
def Emb (T : TypeId) (n : Nat) : Prop := liesAt Tryd.prog Tryd.prog.depth T (n / Tryd.prog.cellsOf T) 0 57 1 = true ∧ T ≠ 5
/-- the struct's block: the builder holds l, the rest is as given -/
def PgAt (B b : Nat) (T : TypeId) (rest : List Value) (l : Bs) (w : World) : Prop :=
  B ≤ b ∧ ∃ p v, w.heap[b]? = some (.cells (p :: v :: rest).toArray T) ∧ (p = .pointer none ∨ p = .pointer (some ⟨b, 0, none⟩)) ∧ w.ownsRow B 5 1 v l.length (Lib.byteCells l)
/-- what writing leaves as it was -/
structure Fr (B b : Nat) (w w' : World) : Prop where
  below : Below B w w'
  others : Lib.OthersKept 5 (some b) w w'
theorem Fr.refl (B b : Nat) (w : World) : Fr B b w w := ⟨Below.refl _ _, Lib.OthersKept.refl _ _ _⟩
theorem Fr.trans {B b : Nat} {x y z : World} (h : Fr B b x y) (k : Fr B b y z) : Fr B b x z := ⟨h.below.trans k.below, h.others.trans k.others⟩
theorem Fr.of {B b : Nat} {w w' : World} (h : Below w.heap.size w w') (hB : B ≤ w.heap.size) : Fr B b w w' :=
  ⟨h.mono hB, fun k _ hk _ _ => (h.block k (lt_of_heap hk)).trans hk⟩
theorem Fr.box {B b k : Nat} {w w' : World} {cs : Array Value} {t : TypeId} (h : Fr B b w w') (hk : w.heap[k]? = some (.cells cs t)) (hne : k ≠ b) (ht : t ≠ 5) : w'.heap[k]? = some (.cells cs t) :=
  h.others k _ hk (fun e => hne (Option.some.inj e)) (fun c fz e => ht (by injection e))
theorem PgAt.below {B b : Nat} {T : TypeId} {rest : List Value} {l : Bs} {w w' : World} (h : PgAt B b T rest l w) (hb : Below w.heap.size w w') : PgAt B b T rest l w' := by
  obtain ⟨hB, p, v, hk, hp, ho⟩ := h
  exact ⟨hB, p, v, (hb.block b (lt_of_heap hk)).trans hk, hp, own_stays ho hb⟩
theorem PgAt.lt {B b : Nat} {T : TypeId} {rest : List Value} {l : Bs} {w : World} (h : PgAt B b T rest l w) : b < w.heap.size ∧ B ≤ b := by
  obtain ⟨hB, p, v, hk, _⟩ := h
  exact ⟨lt_of_heap hk, hB⟩
theorem PgAt.cell {B b : Nat} {T : TypeId} {rest : List Value} {l : Bs} {w : World} (h : PgAt B b T rest l w) (j : Nat) {u : Value} (hj : rest[j]? = some u) : w.cell? ⟨b, j + 2, none⟩ = some u := by
  obtain ⟨hB, p, v, hk, _⟩ := h
  rw [cell_of_blk hk]
  simpa using hj
theorem set0 {w : World} {b : Nat} {T : TypeId} {p v : Value} {rest : List Value} (u : Value) (h : w.heap[b]? = some (.cells (p :: v :: rest).toArray T)) : (w.setCell ⟨b, 0, none⟩ u).heap[b]? = some (.cells (u :: v :: rest).toArray T) := by
  simp [World.setCell, Array.getElem?_modify, h]
theorem set1 {w : World} {b : Nat} {T : TypeId} {p v : Value} {rest : List Value} (u : Value) (h : w.heap[b]? = some (.cells (p :: v :: rest).toArray T)) : (w.setCell ⟨b, 1, none⟩ u).heap[b]? = some (.cells (p :: u :: rest).toArray T) := by
  simp [World.setCell, Array.getElem?_modify, h]
theorem set_far {w : World} {b k j : Nat} (u : Value) (h : k ≠ b) : (w.setCell ⟨b, j, none⟩ u).heap[k]? = w.heap[k]? := by
  simp [World.setCell, Array.getElem?_modify, Ne.symm h]
theorem fr_set {B b j : Nat} {w : World} (u : Value) (hB : B ≤ b) : Fr B b w (w.setCell ⟨b, j, none⟩ u) :=
  ⟨(Below.refl B w).setCell (p := ⟨b, j, none⟩) hB u, (Lib.OthersKept.refl _ _ w).setCell ⟨b, j, none⟩ rfl u⟩
theorem own_far {B b j n : Nat} {w : World} {v : Value} {xs : List Value} (u : Value) (hn : v.ownBlock ≠ some b) (h : w.ownsRow B 5 1 v n xs) : (w.setCell ⟨b, j, none⟩ u).ownsRow B 5 1 v n xs :=
  World.ownsRow.kept h (row := some b) ⟨rfl, rfl, rfl, by simp [World.setCell], fun k _ hk => set_far u (fun e => hk (by rw [e]))⟩ (Or.inr hn)
theorem own_apart {B b n : Nat} {w : World} {v : Value} {xs : List Value} {T : TypeId} {cs : Array Value} (h : w.ownsRow B 5 1 v n xs) (hk : w.heap[b]? = some (.cells cs T)) (hT : T ≠ 5) : v.ownBlock ≠ some b := by
  rcases h.2 with ⟨rfl, _⟩ | ⟨g, cap, cur, rfl, _, hg, _⟩
  · simp [Value.ownBlock]
  · intro e
    simp only [Value.ownBlock, Option.some.injEq] at e
    subst e
    rw [hg] at hk
    simp only [Option.some.injEq, Obj.cells.injEq] at hk
    exact hT hk.2.1.symm
set_option maxHeartbeats 2000000 in
set_option maxRecDepth 100000 in
theorem cc_any {B b : Nat} {T : TypeId} {rest : List Value} {l : Bs} {w : World} (hE : Emb T (rest.length + 2)) (h : PgAt B b T rest l w) :
    Calls Tryd.prog 53 #[.pointer (some ⟨b, 0, none⟩)] w fun e w' => e = .returned (.tuple #[]) ∧ PgAt B b T rest l w' ∧ (∃ v, w'.heap[b]? = some (.cells (.pointer (some ⟨b, 0, none⟩) :: v :: rest).toArray T) ∧ w'.ownsRow B 5 1 v l.length (Lib.byteCells l)) ∧ Fr B b w w' := by
  obtain ⟨hB, p, v, hk, hp, ho⟩ := h
  obtain ⟨j, hj, hjs⟩ := Option.map_eq_some_iff.1 infoBuilderB
  rcases hp with rfl | rfl
  · have hna := own_apart ho hk hE.2
    have HR : Hid (PgAt B b T rest l (w.setCell ⟨b, 0, none⟩ (.pointer (some ⟨b, 0, none⟩))) ∧ (∃ v, (w.setCell ⟨b, 0, none⟩ (.pointer (some ⟨b, 0, none⟩))).heap[b]? = some (.cells (.pointer (some ⟨b, 0, none⟩) :: v :: rest).toArray T) ∧ (w.setCell ⟨b, 0, none⟩ (.pointer (some ⟨b, 0, none⟩))).ownsRow B 5 1 v l.length (Lib.byteCells l)) ∧ Fr B b w (w.setCell ⟨b, 0, none⟩ (.pointer (some ⟨b, 0, none⟩)))) :=
      hid ⟨⟨hB, _, _, set0 _ hk, .inr rfl, own_far _ hna ho⟩, ⟨v, set0 _ hk, own_far _ hna ho⟩, fr_set _ hB⟩
    have hsh : w.shape? b = some (T, rest.length + 2) := by simp [World.shape?, hk]
    have c0 : w.cell? ⟨b, 0, none⟩ = some (.pointer none) := cell_of_blk hk 0
    have f0 : w.frozen? ⟨b, 0, none⟩ = false := by simp [World.frozen?, hk]
    have hto := Lib.run_to_unsafe (P := Tryd.prog) w ⟨b, 0, none⟩ Tryd.underlying54 Tryd.underlying87 hj (by rw [hjs]; decide) hsh (Nat.zero_lt_succ _)
    have hfrom := Lib.run_from_unsafe (P := Tryd.prog) w ⟨b, 0, none⟩ Tryd.underlying87 Tryd.underlying54 hj hsh hE.1
    clear hk ho hna hsh
    go_enter Tryd.func53, Tryd.ntmps53
    go_wp2
    rw [run_callFunc_extern Tryd.func66 (by kernel_rfl) (by kernel_rfl) (by kernel_rfl) (e := Extern.AbiNoEscape.same) (by kernel_rfl)]
    rw [Lib.run_noEscape]
    simp only [Result.andThen]
    rw [Oper.upon_value]
    go_wp2
    exact bodyPost_end (v := .tuple #[]) (results_none Tryd.results53 _ _ _) rfl ⟨rfl, HR.out⟩
  · have HR : Hid (PgAt B b T rest l w ∧ (∃ v, w.heap[b]? = some (.cells (.pointer (some ⟨b, 0, none⟩) :: v :: rest).toArray T) ∧ w.ownsRow B 5 1 v l.length (Lib.byteCells l)) ∧ Fr B b w w) := hid ⟨⟨hB, _, v, hk, .inr rfl, ho⟩, ⟨v, hk, ho⟩, Fr.refl _ _ _⟩
    have c0 : w.cell? ⟨b, 0, none⟩ = some (.pointer (some ⟨b, 0, none⟩)) := cell_of_blk hk 0
    clear hk ho
    go_enter Tryd.func53, Tryd.ntmps53
    go_wp2
    rw [Lib.run_neq_ptr_same w _ Tryd.underlying54 hj]
    go_wp2
    exact bodyPost_end (v := .tuple #[]) (results_none Tryd.results53 _ _ _) rfl ⟨rfl, HR.out⟩
set_option maxHeartbeats 2000000 in
set_option maxRecDepth 100000 in
theorem ws_any {B b : Nat} {T : TypeId} {rest : List Value} {l : Bs} {w : World} (hE : Emb T (rest.length + 2)) (s : ByteArray) (h : PgAt B b T rest l w) (hl : l.length + s.size ≤ 140737488355328) (hB : B ≤ w.heap.size) :
    Calls Tryd.prog 29 #[.pointer (some ⟨b, 0, none⟩), .string s] w fun e w' => e = .returned (.tuple #[.int .i64 s.size, .nilIface]) ∧ PgAt B b T rest (l ++ s.data.toList) w' ∧ Fr B b w w' := by
  obtain ⟨i0, hi, hz0, hz1, hz2⟩ := info_parts infoByteB
  have HC := hid (cc_any hE h)
  have hBb := h.lt.2
  have hT := hE.2
  have HL := hid hl
  clear h hl
  go_enter Tryd.func29, Tryd.ntmps29
  go_wp2_with fail
  refine HC.out.mono ?_
  rintro e w1 ⟨rfl, _, ⟨v, hk, ho⟩, hf1⟩
  have c1 : w1.cell? ⟨b, 1, none⟩ = some v := cell_of_blk hk 1
  have HK := hid hk
  have HO := hid ho
  have HF := hid hf1
  have HA := hid (own_apart ho hk hT)
  clear hk ho hf1 HC
  go_wp2_with (at_builtin; refine Lib.wpList_append_own_string _ rfl _ _ 55 9 rfl B 5 i0 Tryd.underlying55 Tryd.underlying9 hi hz0 hz1 hz2 _ _ _ rfl HO.out s rfl ?c3 ?c4 ?c5 ?_)
  case c3 => have := HL.out; unfold maxLen; omega
  case c4 => exact HL.out
  case c5 => exact Nat.le_trans hB HF.out.below.size
  intro v2 w2 ho2 hg2 _
  obtain ⟨a2, cc2, rfl⟩ := own_shape ho2
  have hk2 := (hg2.block b (lt_of_heap HK.out) (fun e => HA.out e.symm)).trans HK.out
  have f1 : w2.frozen? ⟨b, 1, none⟩ = false := by simp [World.frozen?, hk2]
  have c2 : w2.cell? ⟨b, 1, none⟩ = some v := cell_of_blk hk2 1
  have hna := own_apart ho2 hk2 hT
  have e1 : Lib.byteCells l ++ Lib.strCells s = Lib.byteCells (l ++ s.data.toList) := by rw [Lib.byteCells_append]; rfl
  have e2 : l.length + s.size = (l ++ s.data.toList).length := by rw [List.length_append, Array.length_toList]; rfl
  have HP : Hid (PgAt B b T rest (l ++ s.data.toList) (w2.setCell ⟨b, 1, none⟩ (.slice a2 (l.length + s.size) cc2))) := hid ⟨hBb, _, _, set1 _ hk2, .inr rfl, by rw [← e1, ← e2]; exact own_far _ hna ho2⟩
  have HF2 : Hid (Fr B b w (w2.setCell ⟨b, 1, none⟩ (.slice a2 (l.length + s.size) cc2))) := hid ((HF.out.trans ⟨(Below.refl B w1).grown hg2 (Nat.le_trans hB HF.out.below.size) (fun k hk => (HO.out.lt k hk).1), (Lib.OthersKept.refl _ _ w1).grown hg2 (fun k hk => by
    rcases HO.out.2 with ⟨e, _⟩ | ⟨g, cap, cur, e, _, hg, _⟩
    · rw [e] at hk; simp [Value.ownBlock] at hk
    · rw [e] at hk
      simp only [Value.ownBlock, Option.some.injEq] at hk
      subst hk
      exact ⟨cur, (0, 0), hg⟩)⟩).trans (fr_set _ hBb))
  clear hk2 ho2 hg2 hna e1 e2
  go_wp2
  go_ret2
  exact ⟨rfl, HP.out, HF2.out⟩
set_option maxHeartbeats 2000000 in
set_option maxRecDepth 100000 in
theorem wb_any {B b : Nat} {T : TypeId} {rest : List Value} {l : Bs} {w : World} (hE : Emb T (rest.length + 2)) (c : UInt8) (h : PgAt B b T rest l w) (hl : l.length + 1 ≤ 140737488355328) (hB : B ≤ w.heap.size) :
    Calls Tryd.prog 58 #[.pointer (some ⟨b, 0, none⟩), .int .u8 c.toNat] w fun e w' => e = .returned .nilIface ∧ PgAt B b T rest (l ++ [c]) w' ∧ Fr B b w w' := by
  obtain ⟨i0, hi, hz0, hz1, hz2⟩ := info_parts infoByteB
  have HC := hid (cc_any hE h)
  have hBb := h.lt.2
  have hT := hE.2
  have HL := hid hl
  clear h hl
  go_enter Tryd.func58, Tryd.ntmps58
  go_wp2_with fail
  refine HC.out.mono ?_
  rintro e w1 ⟨rfl, _, ⟨v, hk, ho⟩, hf1⟩
  have c1 : w1.cell? ⟨b, 1, none⟩ = some v := cell_of_blk hk 1
  have HK := hid hk
  have HO := hid ho
  have HF := hid hf1
  have HA := hid (own_apart ho hk hT)
  clear hk ho hf1 HC
  go_wp2_with (at_builtin; refine wpList_append_own _ rfl _ _ 55 rfl B 5 i0 (.int .u8 0) 1 1 Tryd.underlying55 hi hz0 hz1 hz2 rfl (by decide) _ _ _ rfl (HO.out.alloc _) ⟨w1.heap.size, 0, none⟩ 1 1 [.int .u8 c.toNat] rfl rfl ?c1 ?c2 ?c3 ?c4 ?c5 ?_)
  case c1 =>
    intro j u hj
    match j, hj with
    | 0, hj => simp at hj; subst hj; simp [Addr.add]
  case c2 => intro u hu; simp at hu; subst hu; rfl
  case c3 => have := HL.out; unfold maxLen; omega
  case c4 => have := HL.out; omega
  case c5 => have := Nat.le_trans hB HF.out.below.size; simp; omega
  intro v2 w2 ho2 hg2 _
  obtain ⟨a2, cc2, rfl⟩ := own_shape ho2
  have hbA : Below w1.heap.size w1 (w1.alloc (.cells #[.int .u8 c.toNat] 5)) := (Below.refl _ _).alloc (Nat.le_refl _) _
  have hkA := (hbA.block b (lt_of_heap HK.out)).trans HK.out
  have hk2 := (hg2.block b (lt_of_heap hkA) (fun e => HA.out e.symm)).trans hkA
  have f1 : w2.frozen? ⟨b, 1, none⟩ = false := by simp [World.frozen?, hk2]
  have c2 : w2.cell? ⟨b, 1, none⟩ = some v := cell_of_blk hk2 1
  have hna := own_apart ho2 hk2 hT
  have e1 : Lib.byteCells l ++ [.int .u8 c.toNat] = Lib.byteCells (l ++ [c]) := by rw [Lib.byteCells_append]; rfl
  have e2 : l.length + 1 = (l ++ [c]).length := by rw [List.length_append]; rfl
  have HP : Hid (PgAt B b T rest (l ++ [c]) (w2.setCell ⟨b, 1, none⟩ (.slice a2 (l.length + 1) cc2))) := hid ⟨hBb, _, _, set1 _ hk2, .inr rfl, by rw [← e1, ← e2]; exact own_far _ hna ho2⟩
  have HF2 : Hid (Fr B b w (w2.setCell ⟨b, 1, none⟩ (.slice a2 (l.length + 1) cc2))) := hid (((HF.out.trans (Fr.of hbA (Nat.le_trans hB HF.out.below.size))).trans ⟨(Below.refl B _).grown hg2 (Nat.le_trans (Nat.le_trans hB HF.out.below.size) hbA.size) (fun k hk => (HO.out.lt k hk).1), (Lib.OthersKept.refl _ _ _).grown hg2 (fun k hk => by
    rcases HO.out.2 with ⟨e, _⟩ | ⟨g, cap, cur, e, _, hg, _⟩
    · rw [e] at hk; simp [Value.ownBlock] at hk
    · rw [e] at hk
      simp only [Value.ownBlock, Option.some.injEq] at hk
      subst hk
      exact ⟨cur, (0, 0), (hbA.block g (lt_of_heap hg)).trans hg⟩)⟩).trans (fr_set _ hBb))
  clear hk2 ho2 hg2 hna e1 e2 hbA hkA
  go_wp2
  go_ret
  exact ⟨rfl, HP.out, HF2.out⟩
theorem freeze_other (W : World) {g b : Nat} (n : Nat) (h : g ≠ b) : (W.freeze ⟨g, 0, none⟩ n).heap[b]? = W.heap[b]? := by
  unfold World.freeze
  split
  · rfl
  · simp [Array.getElem?_modify, h]
theorem cellsByteB : Tryd.prog.cellsOf 5 = 1 := by kernel_rfl
set_option maxHeartbeats 2000000 in
set_option maxRecDepth 100000 in
theorem str_any {B b : Nat} {T : TypeId} {rest : List Value} {l : Bs} {w : World} (hT : T ≠ 5) (h : PgAt B b T rest l w) (hB : B ≤ w.heap.size) :
    Calls Tryd.prog 22 #[.pointer (some ⟨b, 0, none⟩)] w fun e w' => e = .returned (.string ⟨l.toArray⟩) ∧ Below B w w' ∧ w'.heap[b]? = w.heap[b]? := by
  obtain ⟨hBb, p, v, hk, hp, ho⟩ := h
  have hUS0 : ∀ (W : World) (q : Option Addr), (Builtin.unsafeString_ #[85, 3] 9 #[.pointer q, .int .i64 0]).run Tryd.prog W = .ok (.string .empty) W := fun W q => Lib.run_unsafeString_none W _ _ _ q
  have hD := Below.drew (Below.refl B w)
  have mixed : Tryd.prog.follows .mixedOrders = true := by kernel_rfl
  rcases ho.2 with ⟨rfl, h0⟩ | ⟨g, cap, cur, rfl, hbg, hg, hnc, hcm, hcs, htake⟩
  · have hl : l = [] := List.length_eq_zero_iff.1 h0
    subst hl
    have c1 : w.drew.cell? ⟨b, 1, none⟩ = some (.slice none 0 0) := cell_of_blk (w := w.drew) hk 1
    have hSD : (Builtin.unsafeSliceData_ #[55] 85 #[.slice none 0 0]).run Tryd.prog w.drew = .ok (.pointer none) w.drew := rfl
    clear hk ho hp hB hBb
    go_enter Tryd.func22, Tryd.ntmps22
    go_wp2
    go_region_o
    all_goals (go_wp2; go_ret; exact ⟨rfl, hD, rfl⟩)
  · by_cases hl : l.length = 0
    · have hl' : l = [] := List.length_eq_zero_iff.1 hl
      subst hl'
      by_cases hc0 : cap = 0
      · subst hc0
        have c1 : w.drew.cell? ⟨b, 1, none⟩ = some (.slice (some ⟨g, 0, none⟩) 0 0) := cell_of_blk (w := w.drew) hk 1
        have hSD : (Builtin.unsafeSliceData_ #[55] 85 #[.slice (some ⟨g, 0, none⟩) 0 0]).run Tryd.prog w.drew = .ok (.pointer (some ⟨w.drew.heap.size, 0, none⟩)) (w.drew.alloc (.view ⟨g, 0, none⟩ 5)) :=
          Lib.run_unsafeSliceData_zero w.drew _ _ 5 Tryd.underlying85 ⟨g, 0, none⟩ 0 (5, cur.size) (by have hg' : w.drew.heap[g]? = some (.cells cur 5) := hg; simp [World.shape?, hg'])
        have c2 : (w.drew.alloc (.view ⟨g, 0, none⟩ 5)).cell? ⟨b, 1, none⟩ = some (.slice (some ⟨g, 0, none⟩) 0 0) := cell_of_blk ((Lib.alloc_old w.drew _ b (lt_of_heap hk)).trans hk) 1
        have c3 : (w.alloc (.view ⟨g, 0, none⟩ 5)).drew.cell? ⟨b, 1, none⟩ = some (.slice (some ⟨g, 0, none⟩) 0 0) := c2
        have c0 : w.cell? ⟨b, 1, none⟩ = some (.slice (some ⟨g, 0, none⟩) 0 0) := c1
        have hOA : (w.drew.alloc (.view ⟨g, 0, none⟩ 5)).heap[b]? = w.heap[b]? := Lib.alloc_old w.drew _ b (lt_of_heap hk)
        clear hk ho hg htake hcs hp hBb hl hcm hnc
        go_enter Tryd.func22, Tryd.ntmps22
        go_wp2
        go_region_o
        all_goals (go_wp2; go_ret; exact ⟨rfl, hD.alloc hB _, hOA⟩)
      · have c1 : w.drew.cell? ⟨b, 1, none⟩ = some (.slice (some ⟨g, 0, none⟩) 0 cap) := cell_of_blk (w := w.drew) hk 1
        have hSD : (Builtin.unsafeSliceData_ #[55] 85 #[.slice (some ⟨g, 0, none⟩) 0 cap]).run Tryd.prog w.drew = .ok (.pointer (some ⟨g, 0, none⟩)) w.drew :=
          Lib.run_unsafeSliceData_row _ _ _ _ _ _ hc0
        clear hk ho hg htake hcs hc0 hnc hcm hp hB hBb hl
        go_enter Tryd.func22, Tryd.ntmps22
        go_wp2
        go_region_o
        all_goals (go_wp2; go_ret; exact ⟨rfl, hD, rfl⟩)
    · have h0 : l ≠ [] := fun e => hl (by rw [e]; rfl)
      have c1 : w.drew.cell? ⟨b, 1, none⟩ = some (.slice (some ⟨g, 0, none⟩) l.length cap) := cell_of_blk (w := w.drew) hk 1
      have hSD : (Builtin.unsafeSliceData_ #[55] 85 #[.slice (some ⟨g, 0, none⟩) l.length cap]).run Tryd.prog w.drew = .ok (.pointer (some ⟨g, 0, none⟩)) w.drew :=
        Lib.run_unsafeSliceData_row _ _ _ _ _ _ (by omega)
      have hUS : (Builtin.unsafeString_ #[85, 3] 9 #[.pointer (some ⟨g, 0, none⟩), .int .i64 l.length]).run Tryd.prog w.drew = .ok (.string ⟨l.toArray⟩) (w.drew.freeze ⟨g, 0, none⟩ l.length) := by
        refine Lib.run_unsafeString_row w.drew 85 3 9 5 Tryd.underlying85 cellsByteB g cur.size (by have hg' : w.drew.heap[g]? = some (.cells cur 5) := hg; simp [World.shape?, hg']) l h0 (by omega) (by unfold maxLen at hcm; omega) ?_
        intro j x hx
        exact World.ownsRow.cells (w := w) ho (g := g) rfl j (.int .u8 x.toNat) (by simp [Lib.byteCells, hx])
      have hgb : g ≠ b := fun e => own_apart ho hk hT (by simp [Value.ownBlock, e])
      have hFB : (w.drew.freeze ⟨g, 0, none⟩ l.length).heap[b]? = w.heap[b]? := freeze_other w.drew _ hgb
      have hFZ := Lib.below_freeze hD (p := ⟨g, 0, none⟩) hbg l.length
      clear hk ho hg htake hcs hnc hcm hUS0 hp hB hBb hl h0 hbg hgb
      go_enter Tryd.func22, Tryd.ntmps22
      go_wp2
      go_region_o
      all_goals (go_wp2; go_ret; exact ⟨rfl, hFZ, hFB⟩)
set_option maxHeartbeats 2000000 in
theorem len_any {b n c : Nat} {a : Option Addr} {T : TypeId} {p : Value} {rest : List Value} {w : World} (h : w.heap[b]? = some (.cells (p :: .slice a n c :: rest).toArray T)) :
    Calls Tryd.prog 28 #[.pointer (some ⟨b, 0, none⟩)] w fun e w' => e = .returned (.int .i64 n) ∧ w' = w := by
  have c1 : w.cell? ⟨b, 1, none⟩ = some (.slice a n c) := cell_of_blk h 1
  clear h
  go_enter Tryd.func28, Tryd.ntmps28
  go_wp2
  go_ret
  exact ⟨rfl, rfl⟩
theorem PgAt.blk {B b : Nat} {T : TypeId} {rest : List Value} {l : Bs} {w : World} (h : PgAt B b T rest l w) : ∃ p a c, w.heap[b]? = some (.cells (p :: .slice a l.length c :: rest).toArray T) := by
  obtain ⟨hB, p, v, hk, hp, ho⟩ := h
  obtain ⟨a, c, rfl⟩ := own_shape ho
  exact ⟨p, a, c, hk⟩
theorem fresh (w : World) : PgAt w.heap.size w.heap.size 57 [] [] (w.alloc (.cells #[.pointer none, .slice none 0 0] 57)) :=
  ⟨Nat.le_refl _, .pointer none, .slice none 0 0, heap_alloc_new w _, .inl rfl, World.ownsRow_nil _ _ _ _⟩
theorem embB : Emb 57 2 := ⟨by kernel_rfl, by decide⟩
end Bx
end Go.Proofs.YtjgjfnmljmmplaaDoor
