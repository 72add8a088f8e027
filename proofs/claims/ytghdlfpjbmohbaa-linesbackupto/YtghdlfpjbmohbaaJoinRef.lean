/-
  The walk of the document's Join: for every list of strings whose bytes fit into memory.
-/
import Derived.Test.YtghdlfpjbmohbaaRd
import Derived.Lib.AppendStr
namespace Go.Proofs.Ytghdlfpjbmohbaa
open Go.RowKit

theorem Try.infoByte : (Try.prog.info? 5).map (fun i => (i.zero, i.size, i.bytes)) = some (some (.int .u8 0), 1, 1) := by kernel_rfl

/-- bytes as cells -/
def BC (l : List UInt8) : List Value := l.map fun b => .int .u8 b.toNat
theorem BC_length (l : List UInt8) : (BC l).length = l.length := List.length_map _
theorem BC_append (l r : List UInt8) : BC (l ++ r) = BC l ++ BC r := List.map_append
theorem BC_str (s : ByteArray) : Lib.strCells s = BC s.data.toList := rfl

/-- string(b), b a row of bytes that the call itself made -/
theorem conv_own {w : World} {base : Nat} {v : Value} {l : List UInt8} (h : w.ownsRow base 5 1 v l.length (BC l)) :
    (convert 37 9 v).run Try.prog w = .ok (.string ⟨l.toArray⟩) w := by
  have h' := h
  rcases h.2 with ⟨hv, hn⟩ | ⟨g, cap, cur, hv, _⟩
  · subst hv
    rw [List.length_eq_zero_iff.1 hn]
    rw [run_convert_bytes_string w 37 9 5 none 0 0 Try.underlying37 Try.underlying5 Try.underlying9]
    simp [Conv.bytesToString]
    rfl
  · subst hv
    refine run_convert_bytes_back w 37 9 5 ⟨g, 0, none⟩ cap l Try.underlying37 Try.underlying5 Try.underlying9 fun j hj => ?_
    have := h'.cellAt j (by omega)
    have ea : (⟨g, 0, none⟩ : Addr).add j = ⟨g, j, none⟩ := by
      simp only [Addr.add, Nat.zero_add]
      split
      · next h0 => rw [h0]
      · rfl
    rw [ea, this]
    simp [BC, hj]

/-- the bytes of the first k strings -/
def flat (xs : List ByteArray) (k : Nat) : List UInt8 := ((DL xs).take k).flatten
theorem flat_succ (xs : List ByteArray) (k : Nat) (x : ByteArray) (h : xs[k]? = some x) : flat xs (k + 1) = flat xs k ++ x.data.toList := by
  unfold flat
  have : (DL xs)[k]? = some x.data.toList := by unfold DL; rw [List.getElem?_map, h]; rfl
  rw [List.take_add_one, this]
  simp
theorem flat_le (l : List (List UInt8)) (k : Nat) : ((l.take k).flatten).length ≤ l.flatten.length := by
  have : l.flatten = (l.take k).flatten ++ (l.drop k).flatten := by rw [← List.flatten_append, List.take_append_drop]
  rw [this, List.length_append]
  omega

set_option maxHeartbeats 400000 in
theorem refJoin_none (a : Option Addr) (c : Nat) (w : World) :
    Calls Try.prog 16 #[.slice a 0 c] w fun e w' => e = .returned (.string ⟨#[]⟩) ∧ w' = w := by
  have hcv := conv_own (w := w) (base := 0) (v := .slice none 0 0) (l := []) (World.ownsRow_nil _ _ _ _)
  go_enter Try.func16, Try.ntmps16
  go_wp2
  refine wp_loop_rounds 1 ?_
  rw [rounds_succ]
  go_wp2
  go_ret
  exact ⟨rfl, rfl⟩

set_option maxHeartbeats 1000000 in
theorem refJoin_any (bk o c : Nat) (xs : List ByteArray) (w : World) (hcells : ∀ (j : Nat) x, xs[j]? = some x → w.cell? ⟨bk, o + j, none⟩ = some (.string x))
    (hbk : bk < w.heap.size) (hN : xs.length ≤ 140737488355328) (hlen : (DL xs).flatten.length ≤ 140737488355328) :
    Calls Try.prog 16 #[.slice (some ⟨bk, o, none⟩) xs.length c] w fun e w' => e = .returned (.string ⟨(DL xs).flatten.toArray⟩) ∧ Below w.heap.size w w' := by
  obtain ⟨i0, hi, hz0, hz1, hz2⟩ := info_parts Try.infoByte
  have HC := hid hcells
  have HL := hid hlen
  clear hcells hlen
  go_enter Try.func16, Try.ntmps16
  go_wp2
  go_loopw [3, 4] (fun v i wr => ∃ k : Nat, k ≤ xs.length ∧ i = .int .i64 k ∧ wr.ownsRow w.heap.size 5 1 v (flat xs k).length (BC (flat xs k)) ∧ Below w.heap.size w wr) (fun _ i _ => xs.length - (intOf i).toNat)
  case atStart => exact ⟨0, Nat.zero_le _, rfl, World.ownsRow_nil _ _ _ _, Below.refl _ _⟩
  case round =>
    obtain ⟨k, hk, rfl, hown, hb⟩ := hrel
    by_cases hlt : k < xs.length
    · obtain ⟨x, hx⟩ : ∃ x, xs[k]? = some x := ⟨_, List.getElem?_eq_getElem hlt⟩
      have cx : wr.cell? ⟨bk, o + k, none⟩ = some (.string x) := (hb.cell (p := ⟨bk, o + k, none⟩) hbk).trans (HC.out k x hx)
      have hfs := flat_succ xs k x hx
      have hfit : (flat xs k).length + x.size ≤ 140737488355328 := by
        have h1 : (flat xs (k + 1)).length ≤ _ := flat_le (DL xs) (k + 1)
        rw [hfs, List.length_append, size_data] at h1
        have := HL.out
        omega
      have HF := hid hfs
      clear hfs hx
      go_wp2_with (at_builtin; refine Lib.wpList_append_own_string _ rfl _ _ 37 9 rfl w.heap.size 5 i0 Try.underlying37 Try.underlying9 hi hz0 hz1 hz2 _ _ _ rfl hown x rfl ?c3 hfit ?c5 ?_)
      case c3 => unfold maxLen; omega
      case c5 => exact hb.size
      intro v' w3 hown3 hgrow3 _
      have hb3 : Below w.heap.size w w3 := hb.grown hgrow3 hb.size (own_ge hown)
      have hown4 : w3.ownsRow w.heap.size 5 1 v' (flat xs (k + 1)).length (BC (flat xs (k + 1))) := by
        rw [HF.out, BC_append, ← BC_str, List.length_append, size_data]; exact hown3
      clear hown3 hgrow3 hown hb
      go_wp2
      go_roundw
      case rel => exact ⟨k + 1, by omega, by go_num, hown4, hb3⟩
      case measure => simp [intOf]; omega
    · have hall : flat xs k = (DL xs).flatten := by unfold flat; rw [List.take_of_length_le (by rw [DL_length]; omega)]
      rw [hall] at hown
      have hcv := conv_own hown
      clear hown hall
      go_wp2
      go_ret
      exact ⟨rfl, hb⟩
end Go.Proofs.Ytghdlfpjbmohbaa
