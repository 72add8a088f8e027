/-
  Rows of bytes that a call itself made: their shape, their text, what keeps them.
-/
import Derived.Test.YtnbonghlmdnabaaDoorXQ6
import Derived.Lib.AppendStr
namespace Go.Proofs.YtnbonghlmdnabaaDoor.Cx
open Go.RowKit

theorem Tryd.infoByteX : (Tryd.prog.info? 5).map (fun i => (i.zero, i.size, i.bytes)) = some (some (.int .u8 0), 1, 1) := by kernel_rfl

theorem own_ge {w : World} {base n : Nat} {e : TypeId} {size : Nat} {v : Value} {xs : List Value} (h : w.ownsRow base e size v n xs) : ∀ k, v.ownBlock = some k → base ≤ k := by
  intro k hk
  rcases h.2 with ⟨hv, _⟩ | ⟨g, cap, cur, hv, hg, _⟩
  · subst hv; cases hk
  · subst hv; cases hk; exact hg
theorem byte_own {w : World} {B : Nat} {v : Value} {l : List UInt8} {c : UInt8} (h : w.ownsRow B 5 1 v (l.length + 1) (Lib.byteCells l ++ [.int .u8 c.toNat])) :
    w.ownsRow B 5 1 v (l ++ [c]).length (Lib.byteCells (l ++ [c])) := by
  rw [← cells_snoc, List.length_append]; exact h
theorem str_own {w : World} {B : Nat} {v : Value} {l m : List UInt8} (h : w.ownsRow B 5 1 v (l.length + (ByteArray.mk m.toArray).size) (Lib.byteCells l ++ Lib.strCells ⟨m.toArray⟩)) :
    w.ownsRow B 5 1 v (l ++ m).length (Lib.byteCells (l ++ m)) := by
  have e1 : Lib.strCells ⟨m.toArray⟩ = Lib.byteCells m := by show List.map _ m.toArray.toList = _; rw [List.toList_toArray]; rfl
  have e2 : (ByteArray.mk m.toArray).size = m.length := by show m.toArray.size = _; rw [List.size_toArray]
  rw [e1, e2] at h
  rw [Lib.byteCells_append, List.length_append]
  exact h
theorem own_shape {w : World} {base n : Nat} {e : TypeId} {size : Nat} {v : Value} {xs : List Value} (h : w.ownsRow base e size v n xs) : ∃ a c, v = .slice a n c := by
  rcases h.2 with ⟨hv, hn⟩ | ⟨g, cap, cur, hv, _⟩
  · exact ⟨_, _, by rw [hv, hn]⟩
  · exact ⟨_, _, hv⟩
theorem own_stays {w w' : World} {base n : Nat} {e : TypeId} {size : Nat} {v : Value} {xs : List Value} (h : w.ownsRow base e size v n xs) (hb : Below w.heap.size w w') : w'.ownsRow base e size v n xs := by
  refine ⟨h.1, ?_⟩
  rcases h.2 with h | ⟨g, cap, cur, hv, hg, hh, r⟩
  · exact .inl h
  · have h2 : g < w.heap.size := by
      rcases Nat.lt_or_ge g w.heap.size with k | k
      · exact k
      · rw [Array.getElem?_eq_none k] at hh; cases hh
    exact .inr ⟨g, cap, cur, hv, hg, (hb.block g h2).trans hh, r⟩
theorem own_new (w : World) (c : UInt8) : (w.alloc (.cells #[.int .u8 c.toNat] 5)).ownsRow w.heap.size 5 1 (.slice (some ⟨w.heap.size, 0, none⟩) 1 1) [c].length (Lib.byteCells [c]) :=
  ⟨rfl, .inr ⟨w.heap.size, 1, #[.int .u8 c.toNat], rfl, Nat.le_refl _, heap_alloc_new _ _, Nat.le_refl _, by unfold maxLen; omega, rfl, rfl⟩⟩

/-- string(b), b a row of bytes that the call itself made -/
theorem conv_own {w : World} {base : Nat} {v : Value} {l : List UInt8} (h : w.ownsRow base 5 1 v l.length (Lib.byteCells l)) :
    (convert 49 9 v).run Tryd.prog w = .ok (.string ⟨l.toArray⟩) w := by
  have h' := h
  rcases h.2 with ⟨hv, hn⟩ | ⟨g, cap, cur, hv, _⟩
  · subst hv
    rw [List.length_eq_zero_iff.1 hn]
    rw [run_convert_bytes_string w 49 9 5 none 0 0 Tryd.underlying49 Tryd.underlying5 Tryd.underlying9]
    simp [Conv.bytesToString]
    rfl
  · subst hv
    refine run_convert_bytes_back w 49 9 5 ⟨g, 0, none⟩ cap l Tryd.underlying49 Tryd.underlying5 Tryd.underlying9 fun j hj => ?_
    have := h'.cellAt j (by omega)
    have ea : (⟨g, 0, none⟩ : Addr).add j = ⟨g, j, none⟩ := by
      simp only [Addr.add, Nat.zero_add]
      split
      · next h0 => rw [h0]
      · rfl
    rw [ea, this]
    simp [Lib.byteCells, hj]

set_option maxHeartbeats 2000000 in
theorem refQuote_any (s : ByteArray) (w : World) (hs : s.size ≤ 35184371999999) :
    Calls Tryd.prog 19 #[.string s] w fun e w' => e = .returned (.string ⟨(Pq.quote s.data.toList).toArray⟩) ∧ Below w.heap.size w w' := by
  obtain ⟨i0, hi, hz0, hz1, hz2⟩ := info_parts Tryd.infoByteX
  cases hn : Pq.needs s.data.toList with
  | false =>
    have HQ := hid (Pq.quote_no _ hn)
    have HN := hid hn
    clear hn
    go_enter Tryd.func19, Tryd.ntmps19
    go_wp2_with fail
    refine (refNeeds_any _ _ (by unfold maxLen; omega)).mono ?_
    rintro e w' ⟨rfl, rfl⟩
    rw [HN.out]
    go_wp2
    go_ret
    exact ⟨by rw [HQ.out]; rfl, Below.refl _ _⟩
  | true =>
    have HQ := hid (Pq.quote_yes _ hn)
    have HN := hid hn
    clear hn
    go_enter Tryd.func19, Tryd.ntmps19
    go_wp2_with fail
    refine (refNeeds_any _ _ (by unfold maxLen; omega)).mono ?_
    rintro e w' ⟨rfl, rfl⟩
    rw [HN.out]
    go_wp2
    go_loopw [3, 4] (fun v i wr => ∃ k : Nat, k ≤ s.size ∧ i = .int .i64 k ∧ wr.ownsRow w'.heap.size 5 1 v ([34] ++ Pq.body (s.data.toList.take k)).length (Lib.byteCells ([34] ++ Pq.body (s.data.toList.take k))) ∧ Below w'.heap.size w' wr) (fun _ i _ => s.size - (intOf i).toNat)
    case atStart => exact ⟨0, Nat.zero_le _, rfl, own_new w' 34, (Below.refl _ _).alloc (Nat.le_refl _) _⟩
    case round =>
      obtain ⟨k, hk, rfl, hown, hb⟩ := hrel
      have hz := hb.size
      have hlen := body_take s k hk
      by_cases hlt : k < s.size
      · have HS := hid (body_snoc s k hlt)
        obtain ⟨L, hL⟩ : ∃ L, L = [34] ++ Pq.body (s.data.toList.take k) := ⟨_, rfl⟩
        have hLl : L.length ≤ 4 * k + 1 := by rw [hL]; simp; omega
        rw [← hL] at hown
        have HL := hid hL
        have HO := hid hown
        clear hown hL hlen
        have hel := (Pq.esc_len s[k]).2
        go_wp2_with fail
        refine (escape_any s[k] _).mono ?_
        rintro e w2 ⟨rfl, hb2⟩
        have hown2 := own_stays HO.out hb2
        have hb3 : Below w'.heap.size w' w2 := hb.trans (hb2.mono hz)
        have hz3 := hb3.size
        have hes : (ByteArray.mk (Pq.esc s[k]).toArray).size = (Pq.esc s[k]).length := by show (Pq.esc s[k]).toArray.size = _; rw [List.size_toArray]
        have hes' : (ByteArray.mk (Pq.esc s[k]).toArray).size ≤ 4 := by omega
        clear hes HO hb hb2 hel
        go_wp2_with (at_builtin; refine Lib.wpList_append_own_string _ rfl _ _ 49 9 rfl w'.heap.size 5 i0 Tryd.underlying49 Tryd.underlying9 hi hz0 hz1 hz2 _ _ _ rfl hown2 ⟨(Pq.esc s[k]).toArray⟩ rfl ?c3 ?c4 ?c5 ?_)
        case c3 => unfold maxLen; omega
        case c4 => omega
        case c5 => exact hz3
        intro v' w3 hown3 hgrow3 _
        have hb4 : Below w'.heap.size w' w3 := hb3.grown hgrow3 hz3 (own_ge hown2)
        have hown4 := str_own hown3
        have HO4 : Hid (w3.ownsRow w'.heap.size 5 1 v' ([34] ++ Pq.body (s.data.toList.take (k + 1))).length (Lib.byteCells ([34] ++ Pq.body (s.data.toList.take (k + 1))))) := hid (by
          rw [HS.out, ← List.append_assoc, ← HL.out]; exact hown4)
        clear hown3 hgrow3 hown2 hown4
        go_wp2
        go_roundw
        case rel => exact ⟨k + 1, by omega, by go_num, HO4.out, hb4⟩
        case measure => simp [intOf]; omega
      · have hall : s.data.toList.take k = s.data.toList := take_all s k (by omega)
        rw [hall] at hown hlen
        obtain ⟨L, hL⟩ : ∃ L, L = [34] ++ Pq.body s.data.toList := ⟨_, rfl⟩
        have hLl : L.length ≤ 4 * k + 1 := by rw [hL]; simp; omega
        rw [← hL] at hown
        have HL : Hid (Pq.quote s.data.toList = L ++ [34]) := hid (by rw [HQ.out, hL]; simp)
        clear hL hall hlen HQ
        go_wp2_with (at_builtin; refine wpList_append_own _ rfl _ _ 49 rfl w'.heap.size 5 i0 (.int .u8 0) 1 1 Tryd.underlying49 hi hz0 hz1 hz2 rfl (by decide) _ _ _ rfl (hown.alloc _) ⟨wr.heap.size, 0, none⟩ 1 1 [.int .u8 34] rfl rfl ?a1 ?a2 ?a3 ?a4 ?a5 ?_)
        case a1 =>
          intro j u hj
          match j, hj with
          | 0, hj => simp at hj; subst hj; simp [Addr.add]
        case a2 => intro u hu; simp at hu; subst hu; rfl
        case a3 => unfold maxLen; omega
        case a4 => omega
        case a5 => simp; omega
        intro v' w3 hown3 hgrow3 _
        have hb3 : Below w'.heap.size w' w3 := (hb.alloc hz _).grown hgrow3 (by simp; omega) (own_ge hown)
        have hown4 := byte_own (c := 34) hown3
        have hcv := conv_own hown4
        clear hown3 hgrow3 hown hb hown4
        go_wp2
        go_ret
        exact ⟨by rw [HL.out]; rfl, hb3⟩

end Go.Proofs.YtnbonghlmdnabaaDoor.Cx
