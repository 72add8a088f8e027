/-
  Rows of bytes of the call's own; the walks of the document's runs and Key.
-/
import Derived.Test.YtjjhidojialjoaaDoorN1
import Derived.Lib.AppendStr
import Derived.Laws.AppendOwnNone
namespace Go.Proofs.YtjjhidojialjoaaDoor
open Go.RowKit

theorem cells_snoc (l : List UInt8) (c : UInt8) : Lib.byteCells l ++ [.int .u8 c.toNat] = Lib.byteCells (l ++ [c]) := by rw [Lib.byteCells_append]; rfl
theorem own_ge {w : World} {base n : Nat} {e : TypeId} {size : Nat} {v : Value} {xs : List Value} (h : w.ownsRow base e size v n xs) : ∀ k, v.ownBlock = some k → base ≤ k := by
  intro k hk
  rcases h.2 with ⟨hv, _⟩ | ⟨g, cap, cur, hv, hg, _⟩
  · subst hv; cases hk
  · subst hv; cases hk; exact hg
theorem own_stays {w w' : World} {base n : Nat} {e : TypeId} {size : Nat} {v : Value} {xs : List Value} (h : w.ownsRow base e size v n xs) (hb : Below w.heap.size w w') : w'.ownsRow base e size v n xs := by
  refine ⟨h.1, ?_⟩
  rcases h.2 with h | ⟨g, cap, cur, hv, hg, hh, r⟩
  · exact .inl h
  · have h2 : g < w.heap.size := by
      rcases Nat.lt_or_ge g w.heap.size with k | k
      · exact k
      · rw [Array.getElem?_eq_none k] at hh; cases hh
    exact .inr ⟨g, cap, cur, hv, hg, (hb.block g h2).trans hh, r⟩
theorem Tryd.infoByteX : (Tryd.prog.info? 5).map (fun i => (i.zero, i.size, i.bytes)) = some (some (.int .u8 0), 1, 1) := by kernel_rfl
/-- a row of bytes of the call's own -/
def OwnB (w : World) (B : Nat) (v : Value) (l : List UInt8) : Prop := w.ownsRow B 5 1 v l.length (Lib.byteCells l)
theorem OwnB.alloc {w : World} {B : Nat} {v : Value} {l : List UInt8} (h : OwnB w B v l) (o : Obj) : OwnB (w.alloc o) B v l := World.ownsRow.alloc h o
theorem OwnB.nil (w : World) (B : Nat) : OwnB w B (.slice none 0 0) [] := World.ownsRow_nil _ _ _ _
theorem byte_own {w : World} {B : Nat} {v : Value} {l : List UInt8} {c : UInt8} (h : w.ownsRow B 5 1 v (l.length + 1) (Lib.byteCells l ++ [.int .u8 c.toNat])) :
    w.ownsRow B 5 1 v (l ++ [c]).length (Lib.byteCells (l ++ [c])) := by
  rw [← cells_snoc, List.length_append]; exact h
/-- string(b), b a row of bytes that the call itself made -/
theorem conv_own {w : World} {base : Nat} {v : Value} {l : List UInt8} (h0 : OwnB w base v l) :
    (convert 48 9 v).run Tryd.prog w = .ok (.string ⟨l.toArray⟩) w := by
  have h : w.ownsRow base 5 1 v l.length (Lib.byteCells l) := h0
  have h' := h
  rcases h.2 with ⟨hv, hn⟩ | ⟨g, cap, cur, hv, _⟩
  · subst hv
    rw [List.length_eq_zero_iff.1 hn]
    rw [run_convert_bytes_string w 48 9 5 none 0 0 Tryd.underlying48 Tryd.underlying5 Tryd.underlying9]
    simp [Conv.bytesToString]
    rfl
  · subst hv
    refine run_convert_bytes_back w 48 9 5 ⟨g, 0, none⟩ cap l Tryd.underlying48 Tryd.underlying5 Tryd.underlying9 fun j hj => ?_
    have := h'.cellAt j (by omega)
    have ea : (⟨g, 0, none⟩ : Addr).add j = ⟨g, j, none⟩ := by
      simp only [Addr.add, Nat.zero_add]
      split
      · next h0 => rw [h0]
      · rfl
    rw [ea, this]
    simp [Lib.byteCells, hj]
/-- append of one byte to a row of bytes of the call's own, at a plain region -/
theorem wpList_append_byte {w : World} {ops : Array Oper} {rest : List Oper} {o : Oper} {a : Act} {Q : Exit → Act → World → Prop} (hgd : o.guard = none) (s x : Operand)
    (ho : o.op = .call { callee := .builtin .append, args := #[s, x], argTypes := #[48, 48] }) (B : Nat) (v : Value) (l : List UInt8) (hs : a.eval s = v) (hown : OwnB w B v l)
    (ad : Addr) (cp : Nat) (c : UInt8) (m : Int) (hm : m = c.toNat) (hx : a.eval x = .slice (some ad) 1 cp) (hy : w.cell? (ad.add 0) = some (.int .u8 m)) (hfit : l.length + 1 ≤ 140737488355328) (hB : B ≤ w.heap.size)
    (h : ∀ v' w', OwnB w' B v' (l ++ [c]) → Below B w w' → wpList Tryd.prog ops Q rest (a.put o.dst v') w') : wpList Tryd.prog ops Q (o :: rest) a w := by
  obtain ⟨i0, hi, hz0, hz1, hz2⟩ := info_parts Tryd.infoByteX
  subst hm
  refine wpList_append_own _ hgd s x 48 ho B 5 i0 (.int .u8 0) 1 1 Tryd.underlying48 hi hz0 hz1 hz2 rfl (by decide) v l.length (Lib.byteCells l) hs hown ad 1 cp [.int .u8 c.toNat] hx rfl ?_ ?_ ?_ ?_ hB ?_
  · intro j u hj
    match j, hj with
    | 0, hj => simp at hj; subst hj; exact hy
  · intro u hu; simp at hu; subst hu; rfl
  · unfold maxLen; omega
  · omega
  · intro v' w' h2 h3 _
    exact h v' w' (byte_own h2) ((Below.refl _ _).grown h3 hB (own_ge hown))

/-- runs of blanks as one byte 32, or as none -/
def rn (one : Bool) (l : List UInt8) : List UInt8 := if one = true then In.sq l else In.cl l
theorem rn_len (one : Bool) (l : List UInt8) : (rn one l).length ≤ l.length := by
  unfold rn
  split
  · exact In.sq_len l
  · exact In.cl_len l
theorem rn_else (one : Bool) (l : List UInt8) (c : UInt8) (h : In.bl c = false) : rn one (l ++ [c]) = rn one l ++ [c] := by
  unfold rn
  split
  · rw [In.sq_snoc, h]; rfl
  · rw [In.cl_snoc, h]; rfl
theorem rn_first (l : List UInt8) (c : UInt8) (h : In.bl c = true) (hl : In.lb l = false) : rn true (l ++ [c]) = rn true l ++ [32] := by
  unfold rn
  rw [if_pos rfl, if_pos rfl, In.sq_snoc, h, hl]; rfl
theorem rn_again (l : List UInt8) (c : UInt8) (h : In.bl c = true) (hl : In.lb l = true) : rn true (l ++ [c]) = rn true l := by
  unfold rn
  rw [if_pos rfl, if_pos rfl, In.sq_snoc, h, hl]; simp
theorem rn_none (l : List UInt8) (c : UInt8) (h : In.bl c = true) : rn false (l ++ [c]) = rn false l := by
  unfold rn
  rw [if_neg (by simp), if_neg (by simp), In.cl_snoc, h]; rfl
theorem lb_take (s : ByteArray) (k : Nat) (h : k < s.size) : In.lb (s.data.toList.take (k + 1)) = In.bl s[k] := by
  rw [take_snoc s k h, In.lb_snoc]

set_option maxHeartbeats 2000000 in
theorem runs_any (s : ByteArray) (one : Bool) (w : World) (hs : s.size ≤ 140737488355327) :
    Calls Tryd.prog 18 #[.string s, .bool one] w fun e w' => e = .returned (.string ⟨(rn one s.data.toList).toArray⟩) ∧ Below w.heap.size w w' := by
  go_enter Tryd.func18, Tryd.ntmps18
  go_wp2
  go_loopw [5, 6] (fun v i wr => ∃ k : Nat, k ≤ s.size ∧ i = .int .i64 k ∧ OwnB wr w.heap.size v (rn one (s.data.toList.take k)) ∧ Below w.heap.size w wr) (fun _ i _ => s.size - (intOf i).toNat)
  case atStart => exact ⟨0, Nat.zero_le _, rfl, by cases one <;> exact OwnB.nil _ _, Below.refl _ _⟩
  case round =>
    obtain ⟨k, hk, rfl, hown, hb⟩ := hrel
    have hz := hb.size
    have hlen := rn_len one (s.data.toList.take k)
    rw [List.length_take, size_data] at hlen
    by_cases hlt : k < s.size
    · have HS := hid (take_snoc s k hlt)
      cases hp : In.bl s[k] with
      | false =>
        have HE := hid (rn_else one (s.data.toList.take k) s[k] hp)
        generalize rn one (s.data.toList.take k) = L at hown hlen HE
        go_wp2_with (first | (go_at_call 29; refine (space_any _ _).mono ?_; rintro e w2 ⟨rfl, rfl⟩) | (at_builtin; refine wpList_append_byte rfl _ _ rfl w.heap.size _ L rfl (hown.alloc _) _ 1 s[k] s[k].toNat rfl rfl ?c1 ?c2 ?c3 ?_))
        case c1 => simp [Addr.add]
        case c2 => omega
        case c3 => simp; omega
        intro v3 w3 hown3 hb3
        have hB3 : Below w.heap.size w w3 := (hb.alloc hz _).trans hb3
        have HO3 : Hid (OwnB w3 w.heap.size v3 (rn one (s.data.toList.take (k + 1)))) := hid (by
          rw [HS.out, HE.out]; exact hown3)
        clear hown3 hown
        go_wp2
        go_roundw
        case rel => exact ⟨k + 1, by omega, by go_num, HO3.out, hB3⟩
        case measure => simp [intOf]; omega
      | true =>
        cases one with
        | false =>
          have HO3 : Hid (OwnB wr w.heap.size u5 (rn false (s.data.toList.take (k + 1)))) := hid (by
            rw [HS.out, rn_none _ _ hp]; exact hown)
          clear hown
          go_wp2_with (go_at_call 29; refine (space_any _ _).mono ?_; rintro e w2 ⟨rfl, rfl⟩)
          go_roundw
          case rel => exact ⟨k + 1, by omega, by go_num, HO3.out, hb⟩
          case measure => simp [intOf]; omega
        | true =>
          cases k with
          | zero =>
            have HE := hid (rn_first (s.data.toList.take 0) s[0] hp rfl)
            generalize rn true (s.data.toList.take 0) = L at hown hlen HE
            go_wp2_with (first | (go_at_call 29; refine (space_any _ _).mono ?_; rintro e w2 ⟨rfl, rfl⟩) | (at_builtin; refine wpList_append_byte rfl _ _ rfl w.heap.size _ L rfl (hown.alloc _) _ 1 32 32 rfl rfl ?c1 ?c2 ?c3 ?_))
            case c1 => simp [Addr.add]
            case c2 => omega
            case c3 => simp; omega
            intro v3 w3 hown3 hb3
            have hB3 : Below w.heap.size w w3 := (hb.alloc hz _).trans hb3
            have HO3 : Hid (OwnB w3 w.heap.size v3 (rn true (s.data.toList.take (0 + 1)))) := hid (by
              rw [HS.out, HE.out]; exact hown3)
            clear hown3 hown
            go_wp2
            go_roundw
            case rel => exact ⟨1, by omega, by go_num, HO3.out, hB3⟩
            case measure => simp [intOf]; omega
          | succ k =>
            have hlt' : k < s.size := by omega
            have hl := lb_take s k hlt'
            cases hq : In.bl s[k] with
            | false =>
              have HE := hid (rn_first (s.data.toList.take (k + 1)) s[k + 1] hp (by rw [hl, hq]))
              generalize rn true (s.data.toList.take (k + 1)) = L at hown hlen HE
              clear hl
              go_wp2_with (first | (go_at_call 29; refine (space_any _ _).mono ?_; rintro e w2 ⟨rfl, rfl⟩) | (at_builtin; refine wpList_append_byte rfl _ _ rfl w.heap.size _ L rfl (hown.alloc _) _ 1 32 32 rfl rfl ?c1 ?c2 ?c3 ?_))
              case c1 => simp [Addr.add]
              case c2 => omega
              case c3 => simp; omega
              intro v3 w3 hown3 hb3
              have hB3 : Below w.heap.size w w3 := (hb.alloc hz _).trans hb3
              have HO3 : Hid (OwnB w3 w.heap.size v3 (rn true (s.data.toList.take (k + 1 + 1)))) := hid (by
                rw [HS.out, HE.out]; exact hown3)
              clear hown3 hown
              go_wp2
              go_roundw
              case rel => exact ⟨k + 1 + 1, by omega, by go_num, HO3.out, hB3⟩
              case measure => simp [intOf]; omega
            | true =>
              have HO3 : Hid (OwnB wr w.heap.size u5 (rn true (s.data.toList.take (k + 1 + 1)))) := hid (by
                rw [HS.out, rn_again _ _ hp (by rw [hl, hq])]; exact hown)
              clear hown hl
              go_wp2_with (go_at_call 29; refine (space_any _ _).mono ?_; rintro e w2 ⟨rfl, rfl⟩)
              go_roundw
              case rel => exact ⟨k + 1 + 1, by omega, by go_num, HO3.out, hb⟩
              case measure => simp [intOf]; omega
    · have hall : s.data.toList.take k = s.data.toList := List.take_of_length_le (by rw [size_data]; omega)
      rw [hall] at hown
      have hcv := conv_own hown
      clear hall hlen hown
      go_wp2
      go_ret
      exact ⟨rfl, hb⟩
end Go.Proofs.YtjjhidojialjoaaDoor
