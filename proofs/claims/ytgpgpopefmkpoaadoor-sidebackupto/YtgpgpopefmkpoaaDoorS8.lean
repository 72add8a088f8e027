/-
  Rows of bytes of the call's own; the walk of the document's Join; an append of a string within a region that draws its order.
-/
import Derived.Test.YtgpgpopefmkpoaaDoorS7
import Derived.Lib.AppendStr
import Derived.Deep.RegionHeld3
import Derived.Deep.AppendLies
import Derived.StillTailTactics
import Derived.BigQuiet
namespace Go.Proofs.YtgpgpopefmkpoaaDoor
open Go.RowKit
open Ed (Ch)

theorem Tryd.infoByteS : (Tryd.prog.info? 5).map (fun i => (i.zero, i.size, i.bytes)) = some (some (.int .u8 0), 1, 1) := by kernel_rfl
abbrev OwB (w : World) (B : Nat) (v : Value) (l : Sd.Bs) : Prop := w.ownsRow B 5 1 v l.length (Lib.byteCells l)
theorem str_ownS {w : World} {B : Nat} {v : Value} {l : Sd.Bs} {s : ByteArray} (h : w.ownsRow B 5 1 v (l.length + s.size) (Lib.byteCells l ++ Lib.strCells s)) : OwB w B v (l ++ s.data.toList) := by
  have e1 : Lib.strCells s = Lib.byteCells s.data.toList := rfl
  have e2 : s.size = s.data.toList.length := (dsize s).symm
  rw [e1, e2] at h
  show w.ownsRow _ _ _ _ _ _
  rw [Lib.byteCells_append, List.length_append]
  exact h
theorem conv_ownS {w : World} {base : Nat} {v : Value} {l : List UInt8} (h : w.ownsRow base 5 1 v l.length (Lib.byteCells l)) :
    (convert 60 9 v).run Tryd.prog w = .ok (.string ⟨l.toArray⟩) w := by
  have h' := h
  rcases h.2 with ⟨hv, hn⟩ | ⟨g, cap, cur, hv, _⟩
  · subst hv
    rw [List.length_eq_zero_iff.1 hn]
    rw [run_convert_bytes_string w 60 9 5 none 0 0 Tryd.underlying60 Tryd.underlying5 Tryd.underlying9]
    simp [Conv.bytesToString]
    rfl
  · subst hv
    refine run_convert_bytes_back w 60 9 5 ⟨g, 0, none⟩ cap l Tryd.underlying60 Tryd.underlying5 Tryd.underlying9 fun j hj => ?_
    have := h'.cellAt j (by omega)
    have ea : (⟨g, 0, none⟩ : Addr).add j = ⟨g, j, none⟩ := by
      simp only [Addr.add, Nat.zero_add]
      split
      · next h0 => rw [h0]
      · rfl
    rw [ea, this]
    simp [Lib.byteCells, hj]
theorem step_append_str {ops : Array Oper} {o : Oper} {a : Act} {w : World} {K : Act → World → Prop} {Q : Exit → Act → World → Prop} {E : Prop} (hgd : o.guard = none) (sl x : Operand)
    (ho : o.op = .call { callee := .builtin .append, args := #[sl, x], argTypes := #[60, 9] })
    (base : Nat) (i : TypeInfo) (hi : Tryd.prog.info? 5 = some i) (hz : i.zero = some (.int .u8 0)) (hsize : i.size = 1) (hby : i.bytes = 1)
    (v : Value) (l : Sd.Bs) (hs : a.eval sl = v) (hown : OwB w base v l) (s : ByteArray) (hx : a.eval x = .string s)
    (hb : l.length + s.size ≤ 140737488355328) (hbase : base ≤ w.heap.size)
    (h : ∀ v' w', OwB w' base v' (l ++ s.data.toList) → w.grownBy w' v.ownBlock → K (a.put o.dst v') w') :
    if Region.wanted o (yielded ops a.tmps) = true then Oper.wp Tryd.prog o a w K Q else E := by
  have hw : Region.wanted o (yielded ops a.tmps) = true := by simp [Region.wanted, hgd]
  rw [if_pos hw]
  obtain ⟨v', w', hr, h2, h3, _⟩ := Lib.run_append_own_string (P := Tryd.prog) w base 60 9 o.type 5 i Tryd.underlying60 Tryd.underlying9 hi hz hsize hby v l.length (Lib.byteCells l) hown s (by unfold maxLen; omega) hb hbase
  unfold Oper.wp execOp
  simp only [ho, resolve, invoke, builtin, Sem.run_bind, Sem.run_pure, Result.andThen_ok, List.map_toArray, List.map_cons, List.map_nil, hs, hx, hr]
  exact h _ _ (str_ownS h2) h3
theorem still_of_quietS {P : Program} {ops : Array Oper} {w1 : World} {Q : Act → Prop} : ∀ (l : List Oper) (a : Act), wpQuiet P ops (fun w' => w' = w1) Q l a → wpStill P ops w1 Q l a
  | [], _, h => h
  | o :: rest, a, h => by
    unfold wpQuiet at h
    unfold wpStill
    split
    · next hw =>
      rw [if_pos hw] at h
      obtain ⟨v, h1, h2⟩ := h
      have h3 := h1 w1 rfl
      have h4 := still_of_quietS rest _ h2
      unfold Oper.quietAt at h3
      unfold Oper.still
      generalize (execOp a.eval o).run P w1 = r at h3 ⊢
      unfold Oper.quietUpon at h3
      unfold Oper.stillUpon
      split at h3
      · obtain ⟨e1, e2⟩ := h3
        subst e2
        exact ⟨e1, h4⟩
      · obtain ⟨e1, e2⟩ := h3
        subst e2
        exact ⟨e1, h4⟩
      · obtain ⟨e1, e2⟩ := h3
        exact ⟨e1, v, e2, h4⟩
      · exact h3.elim
    · next hw =>
      rw [if_neg hw] at h
      exact still_of_quietS rest _ h
theorem wp_region_qtailS {P : Program} {id : Nat} {Q : Exit → Act → World → Prop} {a : Act} {w : World} {l : List Oper} (n : Nat) (hm : P.follows .mixedOrders = true) (hB : Region.lexTailB .any l.toArray n = true)
    (h : wpQuiet P l.toArray (fun w' => w' = w.drewN 1) (fun a' => wpList P l.toArray Q (l.drop n) a' (w.drewN 1)) (l.take n) a) : (Code.region id l.toArray true).wp P Q a w :=
  wp_region_still_tail n hm hB (still_of_quietS _ _ h)
set_option maxHeartbeats 2000000 in
theorem rJoin_any {w : World} {v : Value} {L : List ByteArray} (hr : RdT w v L) (hL : L.length ≤ 1099511627776) (hl : (flatB L).length ≤ 70368744177664) :
    Calls Tryd.prog 46 #[v] w fun e w' => e = .returned (.string (bB (flatB L))) ∧ Below w.heap.size w w' := by
  obtain ⟨a, c, rfl⟩ := hr.shape
  obtain ⟨i0, hi, hz0, hz1, hz2⟩ := info_parts Tryd.infoByteS
  obtain ⟨n, hn⟩ : ∃ n, n = L.length := ⟨_, rfl⟩
  have HR := hid hr
  have HN := hid hn
  have HL := hid hl
  rw [← hn] at HR hL ⊢
  clear hr hn hl
  go_enter Tryd.func46, Tryd.ntmps46
  go_wp2
  go_loopw [3, 4] (fun o i wr => ∃ k : Nat, k ≤ n ∧ i = .int .i64 k ∧ Hid (OwB wr w.heap.size o (flatB (L.take k))) ∧ Hid (Below w.heap.size w wr)) (fun _ i _ => n - (intOf i).toNat)
  case atStart => exact ⟨0, Nat.zero_le _, rfl, hid (World.ownsRow_nil _ _ _ _), hid (Below.refl _ _)⟩
  case round =>
    obtain ⟨k, hk, rfl, HO, HB⟩ := hrel
    by_cases hlt : k < n
    · obtain ⟨x, hx⟩ : ∃ x, L[k]? = some x := ⟨_, List.getElem?_eq_getElem (by have := HN.out; omega)⟩
      have hr2 : RdT wr (.slice a n c) L := RdX.below HR.out HB.out
      obtain ⟨b1, o1, e1, hb1, d1⟩ := rdT_at hr2 hx
      subst e1
      have HT := hid (flatB_take hx)
      have hle := flatB_le L (k + 1)
      rw [HT.out, List.length_append, dsize] at hle
      have HLE := hid (Nat.le_trans hle HL.out)
      obtain ⟨P, hP⟩ : ∃ P, P = flatB (L.take k) := ⟨_, rfl⟩
      rw [← hP] at HO HT HLE
      have i1 : (0 : Int) ≤ (k : Int) := by omega
      have i2 : (k : Int) < (n : Int) := by omega
      clear hr2 hx hle hb1 hP
      go_wp2_with (at_builtin; refine Lib.wpList_append_own_string _ rfl _ _ 60 9 rfl w.heap.size 5 i0 Tryd.underlying60 Tryd.underlying9 hi hz0 hz1 hz2 _ _ _ rfl HO.out x rfl ?c3 ?c4 ?c5 ?_)
      case c3 => have h1 := HLE.out; unfold maxLen; omega
      case c4 => have h1 := HLE.out; omega
      case c5 => exact HB.out.size
      intro v7 w7 hown7 hgrow7 _
      have HB7 := hid (HB.out.grown hgrow7 HB.out.size (own_ge HO.out))
      have HO7 := hid (str_ownS (l := P) (s := x) hown7)
      clear hown7 hgrow7
      go_wp2
      go_roundw
      case rel => exact ⟨k + 1, by omega, by go_num, hid (by rw [HT.out]; exact HO7.out), HB7⟩
      case measure => simp [intOf]; omega
    · have HE : Hid (L.take k = L) := hid (List.take_of_length_le (by have := HN.out; omega))
      rw [HE.out] at HO
      have hcv := conv_ownS HO.out
      go_wp2
      go_ret
      exact ⟨rfl, HB.out⟩
/-! ### plain: as the document puts it together -/
def inlD (A B : List ByteArray) : List Ch → Nat → Sd.Bs
  | [], _ => []
  | c :: r, k => flatB (part B k c.b.toNat) ++ ((if 0 < c.n then [91, 45] ++ flatB (part A c.a.toNat (c.a + c.n).toNat) ++ [45, 93] else []) ++ ((if 0 < c.m then [123, 43] ++ flatB (part B c.b.toNat (c.b + c.m).toNat) ++ [43, 125] else []) ++ inlD A B r (c.b + c.m).toNat))
theorem inlD_at {A B : List ByteArray} {s : List Ch} {k i : Nat} {c : Ch} (h : s[i]? = some c) : inlD A B (s.drop i) k = flatB (part B k c.b.toNat) ++ ((if 0 < c.n then [91, 45] ++ flatB (part A c.a.toNat (c.a + c.n).toNat) ++ [45, 93] else []) ++ ((if 0 < c.m then [123, 43] ++ flatB (part B c.b.toNat (c.b + c.m).toNat) ++ [43, 125] else []) ++ inlD A B (s.drop (i + 1)) (c.b + c.m).toNat)) := by
  obtain ⟨hi, he⟩ := List.getElem?_eq_some_iff.1 h
  rw [List.drop_eq_getElem_cons hi, he]
  rfl
/-- changes in order, from the new list's place k on -/
def Chn (n m : Nat) : List Ch → Nat → Prop
  | [], _ => True
  | c :: r, k => (k : Int) ≤ c.b ∧ 0 ≤ c.a ∧ 0 ≤ c.n ∧ c.a + c.n ≤ n ∧ 0 ≤ c.m ∧ c.b + c.m ≤ m ∧ Chn n m r (c.b + c.m).toNat
theorem chn_at {n m : Nat} {s : List Ch} {k i : Nat} {c : Ch} (h : s[i]? = some c) (hc : Chn n m (s.drop i) k) : (k : Int) ≤ c.b ∧ 0 ≤ c.a ∧ 0 ≤ c.n ∧ c.a + c.n ≤ n ∧ 0 ≤ c.m ∧ c.b + c.m ≤ m ∧ Chn n m (s.drop (i + 1)) (c.b + c.m).toNat := by
  obtain ⟨hi, he⟩ := List.getElem?_eq_some_iff.1 h
  rw [List.drop_eq_getElem_cons hi, he] at hc
  exact hc
theorem inl_both {A B : List ByteArray} : ∀ (s : List Ch) (a b : Int), Ed.val s a b A.length B.length = true → 0 ≤ a → 0 ≤ b → b ≤ B.length → inlD A B (s ++ [⟨A.length, 0, B.length, 0⟩]) b.toNat = inlP A B s b.toNat ∧ Chn A.length B.length (s ++ [⟨A.length, 0, B.length, 0⟩]) b.toNat
  | [], a, b, _, _, h0, h1 => by
    constructor
    · show flatB (part B b.toNat (B.length : Int).toNat) ++ ((if (0 : Int) < 0 then _ else []) ++ ((if (0 : Int) < 0 then _ else []) ++ [])) = flatB (part B b.toNat B.length)
      rw [if_neg (by decide), if_neg (by decide), Int.toNat_natCast]
      simp
    · show ((b.toNat : Nat) : Int) ≤ (B.length : Int) ∧ (0 : Int) ≤ (A.length : Int) ∧ (0 : Int) ≤ 0 ∧ (A.length : Int) + 0 ≤ (A.length : Int) ∧ (0 : Int) ≤ 0 ∧ (B.length : Int) + 0 ≤ (B.length : Int) ∧ True
      exact ⟨by omega, by omega, by omega, by omega, by omega, by omega, trivial⟩
  | c :: s, a, b, h, h0, h1, h2 => by
    obtain ⟨hc, hv⟩ := Ed.val_cons.1 h
    obtain ⟨⟨p1, p2, p3⟩, ⟨p4, p5, p6⟩, _, _⟩ := hc
    have hin := inl_both (A := A) (B := B) s (c.a + c.n) (c.b + c.m) hv (by omega) (by omega) (by omega)
    have la : (part A c.a.toNat (c.a + c.n).toNat).length = (c.a + c.n).toNat - c.a.toNat := part_len (by omega)
    have lb : (part B c.b.toNat (c.b + c.m).toNat).length = (c.b + c.m).toNat - c.b.toNat := part_len (by omega)
    have ea : (if 0 < c.n then [91, 45] ++ flatB (part A c.a.toNat (c.a + c.n).toNat) ++ [45, 93] else []) = markB [91, 45] (part A c.a.toNat (c.a + c.n).toNat) [45, 93] := by
      unfold markB
      by_cases hq : 0 < c.n
      · rw [if_pos hq, if_neg (by omega)]
      · rw [if_neg hq, if_pos (by omega)]
    have eb : (if 0 < c.m then [123, 43] ++ flatB (part B c.b.toNat (c.b + c.m).toNat) ++ [43, 125] else []) = markB [123, 43] (part B c.b.toNat (c.b + c.m).toNat) [43, 125] := by
      unfold markB
      by_cases hq : 0 < c.m
      · rw [if_pos hq, if_neg (by omega)]
      · rw [if_neg hq, if_pos (by omega)]
    constructor
    · show flatB (part B b.toNat c.b.toNat) ++ ((if 0 < c.n then _ else []) ++ ((if 0 < c.m then _ else []) ++ inlD A B (s ++ _) (c.b + c.m).toNat)) = flatB (part B b.toNat c.b.toNat) ++ (markB _ _ _ ++ (markB _ _ _ ++ inlP A B s (c.b + c.m).toNat))
      rw [ea, eb, hin.1]
    · show ((b.toNat : Nat) : Int) ≤ c.b ∧ 0 ≤ c.a ∧ 0 ≤ c.n ∧ c.a + c.n ≤ (A.length : Int) ∧ 0 ≤ c.m ∧ c.b + c.m ≤ (B.length : Int) ∧ Chn A.length B.length (s ++ _) (c.b + c.m).toNat
      refine ⟨by omega, by omega, by omega, by omega, by omega, by omega, hin.2⟩
end Go.Proofs.YtgpgpopefmkpoaaDoor
