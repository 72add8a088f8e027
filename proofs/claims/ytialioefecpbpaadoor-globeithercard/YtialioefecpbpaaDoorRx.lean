/-
  The walk of the document's Escape.
-/
import Derived.Test.YtialioefecpbpaaDoorGw
namespace Go.Proofs.YtialioefecpbpaaDoor
open Go.RowKit

theorem Tryd.infoByteX : (Tryd.prog.info? 5).map (fun i => (i.zero, i.size, i.bytes)) = some (some (.int .u8 0), 1, 1) := by kernel_rfl
/-- a row of bytes of the call's own -/
def OwnB (w : World) (B : Nat) (v : Value) (l : List UInt8) : Prop := w.ownsRow B 5 1 v l.length (Lib.byteCells l)
theorem OwnB.alloc {w : World} {B : Nat} {v : Value} {l : List UInt8} (h : OwnB w B v l) (o : Obj) : OwnB (w.alloc o) B v l := World.ownsRow.alloc h o
theorem OwnB.nil (w : World) (B : Nat) : OwnB w B (.slice none 0 0) [] := World.ownsRow_nil _ _ _ _
theorem byte_own {w : World} {B : Nat} {v : Value} {l : List UInt8} {c : UInt8} (h : w.ownsRow B 5 1 v (l.length + 1) (Lib.byteCells l ++ [.int .u8 c.toNat])) :
    w.ownsRow B 5 1 v (l ++ [c]).length (Lib.byteCells (l ++ [c])) := by
  rw [← cells_snoc, List.length_append]; exact h
/-- string(b), b a row of bytes that the call itself made -/
theorem conv_own {w : World} {base : Nat} {v : Value} {l : List UInt8} (h0 : OwnB w base v l) :
    (convert 35 9 v).run Tryd.prog w = .ok (.string ⟨l.toArray⟩) w := by
  have h : w.ownsRow base 5 1 v l.length (Lib.byteCells l) := h0
  have h' := h
  rcases h.2 with ⟨hv, hn⟩ | ⟨g, cap, cur, hv, _⟩
  · subst hv
    rw [List.length_eq_zero_iff.1 hn]
    rw [run_convert_bytes_string w 35 9 5 none 0 0 Tryd.underlying35 Tryd.underlying5 Tryd.underlying9]
    simp [Conv.bytesToString]
    rfl
  · subst hv
    refine run_convert_bytes_back w 35 9 5 ⟨g, 0, none⟩ cap l Tryd.underlying35 Tryd.underlying5 Tryd.underlying9 fun j hj => ?_
    have := h'.cellAt j (by omega)
    have ea : (⟨g, 0, none⟩ : Addr).add j = ⟨g, j, none⟩ := by
      simp only [Addr.add, Nat.zero_add]
      split
      · next h0 => rw [h0]
      · rfl
    rw [ea, this]
    simp [Lib.byteCells, hj]
/-- append of one byte to a row of bytes of the call's own, at a plain region -/
theorem wpList_append_byte {w : World} {ops : Array Oper} {rest : List Oper} {o : Oper} {a : Act} {Q : Exit → Act → World → Prop} (hgd : o.guard = none) (s x : Operand)
    (ho : o.op = .call { callee := .builtin .append, args := #[s, x], argTypes := #[35, 35] }) (B : Nat) (v : Value) (l : List UInt8) (hs : a.eval s = v) (hown : OwnB w B v l)
    (ad : Addr) (cp : Nat) (c : UInt8) (m : Int) (hm : m = c.toNat) (hx : a.eval x = .slice (some ad) 1 cp) (hy : w.cell? (ad.add 0) = some (.int .u8 m)) (hfit : l.length + 1 ≤ 140737488355328) (hB : B ≤ w.heap.size)
    (h : ∀ v' w', OwnB w' B v' (l ++ [c]) → Below B w w' → wpList Tryd.prog ops Q rest (a.put o.dst v') w') : wpList Tryd.prog ops Q (o :: rest) a w := by
  obtain ⟨i0, hi, hz0, hz1, hz2⟩ := info_parts Tryd.infoByteX
  subst hm
  refine wpList_append_own _ hgd s x 35 ho B 5 i0 (.int .u8 0) 1 1 Tryd.underlying35 hi hz0 hz1 hz2 rfl (by decide) v l.length (Lib.byteCells l) hs hown ad 1 cp [.int .u8 c.toNat] hx rfl ?_ ?_ ?_ ?_ hB ?_
  · intro j u hj
    match j, hj with
    | 0, hj => simp at hj; subst hj; exact hy
  · intro u hu; simp at hu; subst hu; rfl
  · unfold maxLen; omega
  · omega
  · intro v' w' h2 h3 _
    exact h v' w' (byte_own h2) ((Below.refl _ _).grown h3 hB (own_ge hown))

theorem sp_cases (c : UInt8) : Pg.sp c = (((c.toNat : Int) == 42) || ((c.toNat : Int) == 63) || ((c.toNat : Int) == 91) || ((c.toNat : Int) == 92)) := by
  have key : ∀ d : UInt8, decide (c = d) = ((c.toNat : Int) == (d.toNat : Int)) := by
    intro d
    rw [Bool.eq_iff_iff, decide_eq_true_eq, beq_iff_eq]
    exact (byte_iff c d).symm
  unfold Pg.sp
  rw [key, key, key, key]
  rfl

set_option maxHeartbeats 4000000 in
theorem refEscape_any (s : ByteArray) (w : World) (hs : s.size ≤ 70368744000000) :
    Calls Tryd.prog 18 #[.string s] w fun e w' => e = .returned (.string ⟨(Pg.esc s.data.toList).toArray⟩) ∧ Below w.heap.size w w' := by
  go_enter Tryd.func18, Tryd.ntmps18
  go_wp2
  go_loopw [3, 4] (fun v i wr => ∃ k : Nat, k ≤ s.size ∧ i = .int .i64 k ∧ OwnB wr w.heap.size v (Pg.esc (s.data.toList.take k)) ∧ Below w.heap.size w wr) (fun _ i _ => s.size - (intOf i).toNat)
  case atStart => exact ⟨0, Nat.zero_le _, rfl, OwnB.nil _ _, Below.refl _ _⟩
  case round =>
    obtain ⟨k, hk, rfl, hown, hb⟩ := hrel
    have hz := hb.size
    have hlen := esc_len (s.data.toList.take k)
    rw [List.length_take, size_data] at hlen
    by_cases hlt : k < s.size
    · have HS := hid (esc_snoc s k hlt)
      have hsp := sp_cases s[k]
      obtain ⟨L, hL⟩ : ∃ L, L = Pg.esc (s.data.toList.take k) := ⟨_, rfl⟩
      rw [← hL] at hown HS hlen
      have hLl : L.length ≤ 2 * k := by omega
      clear hlen hL
      cases hp : Pg.sp s[k] with
      | true =>
        have HE : Hid (Pg.esc1 s[k] = [92, s[k]]) := hid (by unfold Pg.esc1; rw [hp]; rfl)
        rw [hp] at hsp
        have hq : ((s[k].toNat : Int) == 42) = true ∨ (((s[k].toNat : Int) == 42) = false ∧ ((s[k].toNat : Int) == 63) = true) ∨ (((s[k].toNat : Int) == 42) = false ∧ ((s[k].toNat : Int) == 63) = false ∧ ((s[k].toNat : Int) == 91) = true) ∨ (((s[k].toNat : Int) == 42) = false ∧ ((s[k].toNat : Int) == 63) = false ∧ ((s[k].toNat : Int) == 91) = false ∧ ((s[k].toNat : Int) == 92) = true) := by
          revert hsp
          cases ((s[k].toNat : Int) == 42) <;> cases ((s[k].toNat : Int) == 63) <;> cases ((s[k].toNat : Int) == 91) <;> cases ((s[k].toNat : Int) == 92) <;> simp
        clear hsp hp
        have HO := hid hown
        clear hown
        rcases hq with t1 | ⟨t1, t2⟩ | ⟨t1, t2, t3⟩ | ⟨t1, t2, t3, t4⟩
        all_goals
          have hown := HO.out
          go_wp2_with (at_builtin; refine wpList_append_byte rfl _ _ rfl w.heap.size _ L rfl (hown.alloc _) ⟨wr.heap.size, 0, none⟩ 1 92 92 rfl rfl ?c1 ?c2 ?c3 ?_)
          case c1 => simp [Addr.add]
          case c2 => omega
          case c3 => simp; omega
          intro v2 w2 hown2 hb2
          have hB2 : Below w.heap.size w w2 := (hb.alloc hz _).trans hb2
          have hz2 := hB2.size
          clear hown hb2
          go_wp2_with (at_builtin; refine wpList_append_byte rfl _ _ rfl w.heap.size _ (L ++ [92]) rfl (hown2.alloc _) ⟨w2.heap.size, 0, none⟩ 1 s[k] s[k].toNat rfl rfl ?d1 ?d2 ?d3 ?_)
          case d1 => simp [Addr.add]
          case d2 => simp; omega
          case d3 => simp; omega
          intro v3 w3 hown3 hb3
          have hB3 : Below w.heap.size w w3 := (hB2.alloc hz2 _).trans hb3
          have HO3 : Hid (OwnB w3 w.heap.size v3 (Pg.esc (s.data.toList.take (k + 1)))) := hid (by
            rw [HS.out, HE.out]; simpa using hown3)
          clear hown3 hown2
          go_wp2
          go_roundw
          case rel => exact ⟨k + 1, by omega, by go_num, HO3.out, hB3⟩
          case measure => simp [intOf]; omega
      | false =>
        have HE : Hid (Pg.esc1 s[k] = [s[k]]) := hid (by unfold Pg.esc1; rw [hp]; rfl)
        rw [hp] at hsp
        have hq : ((s[k].toNat : Int) == 42) = false ∧ ((s[k].toNat : Int) == 63) = false ∧ ((s[k].toNat : Int) == 91) = false ∧ ((s[k].toNat : Int) == 92) = false := by
          revert hsp
          cases ((s[k].toNat : Int) == 42) <;> cases ((s[k].toNat : Int) == 63) <;> cases ((s[k].toNat : Int) == 91) <;> cases ((s[k].toNat : Int) == 92) <;> simp
        obtain ⟨t1, t2, t3, t4⟩ := hq
        clear hsp hp
        go_wp2_with (at_builtin; refine wpList_append_byte rfl _ _ rfl w.heap.size _ L rfl (hown.alloc _) ⟨wr.heap.size, 0, none⟩ 1 s[k] s[k].toNat rfl rfl ?c1 ?c2 ?c3 ?_)
        case c1 => simp [Addr.add]
        case c2 => omega
        case c3 => simp; omega
        intro v3 w3 hown3 hb3
        have hB3 : Below w.heap.size w w3 := (hb.alloc hz _).trans hb3
        have HO3 : Hid (OwnB w3 w.heap.size v3 (Pg.esc (s.data.toList.take (k + 1)))) := hid (by
          rw [HS.out, HE.out]; exact hown3)
        clear hown3 hown
        go_wp2
        go_roundw
        case rel => exact ⟨k + 1, by omega, by go_num, HO3.out, hB3⟩
        case measure => simp [intOf]; omega
    · have hall : s.data.toList.take k = s.data.toList := take_all s k (by omega)
      rw [hall] at hown
      have hcv := conv_own hown
      clear hall hlen hown
      go_wp2
      go_ret
      exact ⟨rfl, hb⟩
end Go.Proofs.YtialioefecpbpaaDoor
