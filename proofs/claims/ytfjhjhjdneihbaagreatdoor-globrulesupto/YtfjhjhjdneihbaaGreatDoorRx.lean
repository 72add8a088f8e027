/-
  The walk of the document's Escape.
-/
import Derived.Test.YtfjhjhjdneihbaaGreatDoorGw
namespace Go.Proofs.YtfjhjhjdneihbaaGreatDoor
open Go.RowKit

theorem Tryz.infoByteX : (Tryz.prog.info? 5).map (fun i => (i.zero, i.size, i.bytes)) = some (some (.int .u8 0), 1, 1) := by kernel_rfl
/-- a row of bytes of the call's own -/
def OwnB (w : World) (B : Nat) (v : Value) (l : List UInt8) : Prop := w.ownsRow B 5 1 v l.length (Lib.byteCells l)
theorem OwnB.alloc {w : World} {B : Nat} {v : Value} {l : List UInt8} (h : OwnB w B v l) (o : Obj) : OwnB (w.alloc o) B v l := World.ownsRow.alloc h o
theorem OwnB.nil (w : World) (B : Nat) : OwnB w B (.slice none 0 0) [] := World.ownsRow_nil _ _ _ _
theorem byte_own {w : World} {B : Nat} {v : Value} {l : List UInt8} {c : UInt8} (h : w.ownsRow B 5 1 v (l.length + 1) (Lib.byteCells l ++ [.int .u8 c.toNat])) :
    w.ownsRow B 5 1 v (l ++ [c]).length (Lib.byteCells (l ++ [c])) := by
  rw [← cells_snoc, List.length_append]; exact h
/-- string(b), b a row of bytes that the call itself made -/
theorem conv_own {w : World} {base : Nat} {v : Value} {l : List UInt8} (h0 : OwnB w base v l) :
    (convert 109 9 v).run Tryz.prog w = .ok (.string ⟨l.toArray⟩) w := by
  have h : w.ownsRow base 5 1 v l.length (Lib.byteCells l) := h0
  have h' := h
  rcases h.2 with ⟨hv, hn⟩ | ⟨g, cap, cur, hv, _⟩
  · subst hv
    rw [List.length_eq_zero_iff.1 hn]
    rw [run_convert_bytes_string w 109 9 5 none 0 0 Tryz.underlying109 Tryz.underlying5 Tryz.underlying9]
    simp [Conv.bytesToString]
    rfl
  · subst hv
    refine run_convert_bytes_back w 109 9 5 ⟨g, 0, none⟩ cap l Tryz.underlying109 Tryz.underlying5 Tryz.underlying9 fun j hj => ?_
    have := h'.cellAt j (by omega)
    have ea : (⟨g, 0, none⟩ : Addr).add j = ⟨g, j, none⟩ := by
      simp only [Addr.add, Nat.zero_add]
      split
      · next h0 => rw [h0]
      · rfl
    rw [ea, this]
    simp [Lib.byteCells, hj]
/-- append of one byte to a row of bytes of the call's own, at a plain region -/
theorem wpList_append_byte {w : World} {ops : Array Oper} {rest : List Oper} {o : Oper} {a : Act} {Q : Exit → Act → World → Prop} (hgd : o.guard = none) (s x : Operand)
    (ho : o.op = .call { callee := .builtin .append, args := #[s, x], argTypes := #[109, 109] }) (B : Nat) (v : Value) (l : List UInt8) (hs : a.eval s = v) (hown : OwnB w B v l)
    (ad : Addr) (cp : Nat) (c : UInt8) (m : Int) (hm : m = c.toNat) (hx : a.eval x = .slice (some ad) 1 cp) (hy : w.cell? (ad.add 0) = some (.int .u8 m)) (hfit : l.length + 1 ≤ 140737488355328) (hB : B ≤ w.heap.size)
    (h : ∀ v' w', OwnB w' B v' (l ++ [c]) → Below B w w' → wpList Tryz.prog ops Q rest (a.put o.dst v') w') : wpList Tryz.prog ops Q (o :: rest) a w := by
  obtain ⟨i0, hi, hz0, hz1, hz2⟩ := info_parts Tryz.infoByteX
  subst hm
  refine wpList_append_own _ hgd s x 109 ho B 5 i0 (.int .u8 0) 1 1 Tryz.underlying109 hi hz0 hz1 hz2 rfl (by decide) v l.length (Lib.byteCells l) hs hown ad 1 cp [.int .u8 c.toNat] hx rfl ?_ ?_ ?_ ?_ hB ?_
  · intro j u hj
    match j, hj with
    | 0, hj => simp at hj; subst hj; exact hy
  · intro u hu; simp at hu; subst hu; rfl
  · unfold maxLen; omega
  · omega
  · intro v' w' h2 h3 _
    exact h v' w' (byte_own h2) ((Below.refl _ _).grown h3 hB (own_ge hown))

theorem sp_cases (c : UInt8) : Pg.sp c = (((c.toNat : Int) == 42) || ((c.toNat : Int) == 63) || ((c.toNat : Int) == 91) || ((c.toNat : Int) == 92)) := by
  have key : ∀ d : UInt8, decide (c = d) = ((c.toNat : Int) == (d.toNat : Int)) := by
    intro d
    rw [Bool.eq_iff_iff, decide_eq_true_eq, beq_iff_eq]
    exact (byte_iff c d).symm
  unfold Pg.sp
  rw [key, key, key, key]
  rfl

end Go.Proofs.YtfjhjhjdneihbaaGreatDoor
