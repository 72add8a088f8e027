/-
  Several texts in one: XOwn, XQ7, XQ8, XQ9.
-/
import Derived.Test.YtobocdbehjcpjaaGreatDoorXQ6
import Derived.Lib.AppendStr
import Derived.Test.YtobocdbehjcpjaaGreatDoorXQ4
/-
  Rows of bytes that a call itself made: their shape, their text, what keeps them.
-/
namespace Go.Proofs.YtobocdbehjcpjaaGreatDoor.Cx
open Go.RowKit

theorem Tryz.infoByteX : (Tryz.prog.info? 5).map (fun i => (i.zero, i.size, i.bytes)) = some (some (.int .u8 0), 1, 1) := by kernel_rfl

theorem own_ge {w : World} {base n : Nat} {e : TypeId} {size : Nat} {v : Value} {xs : List Value} (h : w.ownsRow base e size v n xs) : ∀ k, v.ownBlock = some k → base ≤ k := by
  intro k hk
  rcases h.2 with ⟨hv, _⟩ | ⟨g, cap, cur, hv, hg, _⟩
  · subst hv; cases hk
  · subst hv; cases hk; exact hg
theorem byte_own {w : World} {B : Nat} {v : Value} {l : List UInt8} {c : UInt8} (h : w.ownsRow B 5 1 v (l.length + 1) (Lib.byteCells l ++ [.int .u8 c.toNat])) :
    w.ownsRow B 5 1 v (l ++ [c]).length (Lib.byteCells (l ++ [c])) := by
  rw [← cells_snoc, List.length_append]; exact h
theorem str_own {w : World} {B : Nat} {v : Value} {l m : List UInt8} (h : w.ownsRow B 5 1 v (l.length + (ByteArray.mk m.toArray).size) (Lib.byteCells l ++ Lib.strCells ⟨m.toArray⟩)) :
    w.ownsRow B 5 1 v (l ++ m).length (Lib.byteCells (l ++ m)) := by
  have e1 : Lib.strCells ⟨m.toArray⟩ = Lib.byteCells m := by show List.map _ m.toArray.toList = _; rw [List.toList_toArray]; rfl
  have e2 : (ByteArray.mk m.toArray).size = m.length := by show m.toArray.size = _; rw [List.size_toArray]
  rw [e1, e2] at h
  rw [Lib.byteCells_append, List.length_append]
  exact h
theorem own_shape {w : World} {base n : Nat} {e : TypeId} {size : Nat} {v : Value} {xs : List Value} (h : w.ownsRow base e size v n xs) : ∃ a c, v = .slice a n c := by
  rcases h.2 with ⟨hv, hn⟩ | ⟨g, cap, cur, hv, _⟩
  · exact ⟨_, _, by rw [hv, hn]⟩
  · exact ⟨_, _, hv⟩
theorem own_stays {w w' : World} {base n : Nat} {e : TypeId} {size : Nat} {v : Value} {xs : List Value} (h : w.ownsRow base e size v n xs) (hb : Below w.heap.size w w') : w'.ownsRow base e size v n xs := by
  refine ⟨h.1, ?_⟩
  rcases h.2 with h | ⟨g, cap, cur, hv, hg, hh, r⟩
  · exact .inl h
  · have h2 : g < w.heap.size := by
      rcases Nat.lt_or_ge g w.heap.size with k | k
      · exact k
      · rw [Array.getElem?_eq_none k] at hh; cases hh
    exact .inr ⟨g, cap, cur, hv, hg, (hb.block g h2).trans hh, r⟩
theorem own_new (w : World) (c : UInt8) : (w.alloc (.cells #[.int .u8 c.toNat] 5)).ownsRow w.heap.size 5 1 (.slice (some ⟨w.heap.size, 0, none⟩) 1 1) [c].length (Lib.byteCells [c]) :=
  ⟨rfl, .inr ⟨w.heap.size, 1, #[.int .u8 c.toNat], rfl, Nat.le_refl _, heap_alloc_new _ _, Nat.le_refl _, by unfold maxLen; omega, rfl, rfl⟩⟩

/-- string(b), b a row of bytes that the call itself made -/
theorem conv_own {w : World} {base : Nat} {v : Value} {l : List UInt8} (h : w.ownsRow base 5 1 v l.length (Lib.byteCells l)) :
    (convert 63 9 v).run Tryz.prog w = .ok (.string ⟨l.toArray⟩) w := by
  have h' := h
  rcases h.2 with ⟨hv, hn⟩ | ⟨g, cap, cur, hv, _⟩
  · subst hv
    rw [List.length_eq_zero_iff.1 hn]
    rw [run_convert_bytes_string w 63 9 5 none 0 0 Tryz.underlying63 Tryz.underlying5 Tryz.underlying9]
    simp [Conv.bytesToString]
    rfl
  · subst hv
    refine run_convert_bytes_back w 63 9 5 ⟨g, 0, none⟩ cap l Tryz.underlying63 Tryz.underlying5 Tryz.underlying9 fun j hj => ?_
    have := h'.cellAt j (by omega)
    have ea : (⟨g, 0, none⟩ : Addr).add j = ⟨g, j, none⟩ := by
      simp only [Addr.add, Nat.zero_add]
      split
      · next h0 => rw [h0]
      · rfl
    rw [ea, this]
    simp [Lib.byteCells, hj]

set_option maxHeartbeats 2000000 in
theorem refQuote_any (s : ByteArray) (w : World) (hs : s.size ≤ 35184371999999) :
    Calls Tryz.prog 45 #[.string s] w fun e w' => e = .returned (.string ⟨(Pq.quote s.data.toList).toArray⟩) ∧ Below w.heap.size w w' := by
  obtain ⟨i0, hi, hz0, hz1, hz2⟩ := info_parts Tryz.infoByteX
  cases hn : Pq.needs s.data.toList with
  | false =>
    have HQ := hid (Pq.quote_no _ hn)
    have HN := hid hn
    clear hn
    go_enter Tryz.func45, Tryz.ntmps45
    go_wp2_with fail
    refine (refNeeds_any _ _ (by unfold maxLen; omega)).mono ?_
    rintro e w' ⟨rfl, rfl⟩
    rw [HN.out]
    go_wp2
    go_ret
    exact ⟨by rw [HQ.out]; rfl, Below.refl _ _⟩
  | true =>
    have HQ := hid (Pq.quote_yes _ hn)
    have HN := hid hn
    clear hn
    go_enter Tryz.func45, Tryz.ntmps45
    go_wp2_with fail
    refine (refNeeds_any _ _ (by unfold maxLen; omega)).mono ?_
    rintro e w' ⟨rfl, rfl⟩
    rw [HN.out]
    go_wp2
    go_loopw [3, 4] (fun v i wr => ∃ k : Nat, k ≤ s.size ∧ i = .int .i64 k ∧ wr.ownsRow w'.heap.size 5 1 v ([34] ++ Pq.body (s.data.toList.take k)).length (Lib.byteCells ([34] ++ Pq.body (s.data.toList.take k))) ∧ Below w'.heap.size w' wr) (fun _ i _ => s.size - (intOf i).toNat)
    case atStart => exact ⟨0, Nat.zero_le _, rfl, own_new w' 34, (Below.refl _ _).alloc (Nat.le_refl _) _⟩
    case round =>
      obtain ⟨k, hk, rfl, hown, hb⟩ := hrel
      have hz := hb.size
      have hlen := body_take s k hk
      by_cases hlt : k < s.size
      · have HS := hid (body_snoc s k hlt)
        obtain ⟨L, hL⟩ : ∃ L, L = [34] ++ Pq.body (s.data.toList.take k) := ⟨_, rfl⟩
        have hLl : L.length ≤ 4 * k + 1 := by rw [hL]; simp; omega
        rw [← hL] at hown
        have HL := hid hL
        have HO := hid hown
        clear hown hL hlen
        have hel := (Pq.esc_len s[k]).2
        go_wp2_with fail
        refine (escape_any s[k] _).mono ?_
        rintro e w2 ⟨rfl, hb2⟩
        have hown2 := own_stays HO.out hb2
        have hb3 : Below w'.heap.size w' w2 := hb.trans (hb2.mono hz)
        have hz3 := hb3.size
        have hes : (ByteArray.mk (Pq.esc s[k]).toArray).size = (Pq.esc s[k]).length := by show (Pq.esc s[k]).toArray.size = _; rw [List.size_toArray]
        have hes' : (ByteArray.mk (Pq.esc s[k]).toArray).size ≤ 4 := by omega
        clear hes HO hb hb2 hel
        go_wp2_with (at_builtin; refine Lib.wpList_append_own_string _ rfl _ _ 63 9 rfl w'.heap.size 5 i0 Tryz.underlying63 Tryz.underlying9 hi hz0 hz1 hz2 _ _ _ rfl hown2 ⟨(Pq.esc s[k]).toArray⟩ rfl ?c3 ?c4 ?c5 ?_)
        case c3 => unfold maxLen; omega
        case c4 => omega
        case c5 => exact hz3
        intro v' w3 hown3 hgrow3 _
        have hb4 : Below w'.heap.size w' w3 := hb3.grown hgrow3 hz3 (own_ge hown2)
        have hown4 := str_own hown3
        have HO4 : Hid (w3.ownsRow w'.heap.size 5 1 v' ([34] ++ Pq.body (s.data.toList.take (k + 1))).length (Lib.byteCells ([34] ++ Pq.body (s.data.toList.take (k + 1))))) := hid (by
          rw [HS.out, ← List.append_assoc, ← HL.out]; exact hown4)
        clear hown3 hgrow3 hown2 hown4
        go_wp2
        go_roundw
        case rel => exact ⟨k + 1, by omega, by go_num, HO4.out, hb4⟩
        case measure => simp [intOf]; omega
      · have hall : s.data.toList.take k = s.data.toList := take_all s k (by omega)
        rw [hall] at hown hlen
        obtain ⟨L, hL⟩ : ∃ L, L = [34] ++ Pq.body s.data.toList := ⟨_, rfl⟩
        have hLl : L.length ≤ 4 * k + 1 := by rw [hL]; simp; omega
        rw [← hL] at hown
        have HL : Hid (Pq.quote s.data.toList = L ++ [34]) := hid (by rw [HQ.out, hL]; simp)
        clear hL hall hlen HQ
        go_wp2_with (at_builtin; refine wpList_append_own _ rfl _ _ 63 rfl w'.heap.size 5 i0 (.int .u8 0) 1 1 Tryz.underlying63 hi hz0 hz1 hz2 rfl (by decide) _ _ _ rfl (hown.alloc _) ⟨wr.heap.size, 0, none⟩ 1 1 [.int .u8 34] rfl rfl ?a1 ?a2 ?a3 ?a4 ?a5 ?_)
        case a1 =>
          intro j u hj
          match j, hj with
          | 0, hj => simp at hj; subst hj; simp [Addr.add]
        case a2 => intro u hu; simp at hu; subst hu; rfl
        case a3 => unfold maxLen; omega
        case a4 => omega
        case a5 => simp; omega
        intro v' w3 hown3 hgrow3 _
        have hb3 : Below w'.heap.size w' w3 := (hb.alloc hz _).grown hgrow3 (by simp; omega) (own_ge hown)
        have hown4 := byte_own (c := 34) hown3
        have hcv := conv_own hown4
        clear hown3 hgrow3 hown hb hown4
        go_wp2
        go_ret
        exact ⟨by rw [HL.out]; rfl, hb3⟩

end Go.Proofs.YtobocdbehjcpjaaGreatDoor.Cx
/-
  The walk of the document's read where two bytes or more are there: for every string.
-/
namespace Go.Proofs.YtobocdbehjcpjaaGreatDoor.Cx
open Go.RowKit

set_option maxHeartbeats 2000000 in
theorem read_few (s : ByteArray) (w : World) (hs : s.size ≤ maxLen) (h2 : 2 ≤ s.size) (h0 : s[0] = 92) (h4 : s.size < 4) :
    Calls Tryz.prog 98 #[.string s] w fun e w' => e = .returned (.tuple #[.int .u8 (rbV s).1.toNat, .int .i64 (rbV s).2]) ∧ ∃ m, w' = w.drewN m := by
  unfold maxLen at hs
  have e0 : ((s[0].toNat : Int) != 92) = false := by rw [h0]; rfl
  have dA : decide ((s.size : Int) < 2) = false := decide_eq_false (by omega)
  have h21 : (1 : Int) < (s.size : Int) := by omega
  have H0 := hid h0
  clear h0
  have c1 := s[1].toNat_lt
  go_enter Tryz.func98, Tryz.ntmps98
  go_wp2
  go_loopw [4] (fun i wr => ∃ k : Nat, k ≤ 9 ∧ i = .int .i64 k ∧ s[1] ∉ Pq.letters.take k ∧ ∃ m, wr = w.drewN m) (fun i _ => 9 - (intOf i).toNat)
  case atStart => exact ⟨0, Nat.zero_le _, rfl, by simp, 0, rfl⟩
  case round =>
    obtain ⟨k, hk, rfl, ha, m, rfl⟩ := hrel
    have HA := hid ha
    clear ha
    by_cases hlt : k < 9
    · have hlt' : (k : Int) < 9 := by omega
      go_wp2
      go_quiet (fail)
      go_wp2
      · have ht : (((ByteArray.mk #[97, 98, 116, 110, 118, 102, 114, 34, 92])[k].toNat : Int) == (s[1].toNat : Int)) = true := by assumption
        go_ret2
        exact ⟨by rw [read_hit s k hlt h2 H0.out HA.out ht]; rfl, _, rfl⟩
      · have ht : (((ByteArray.mk #[97, 98, 116, 110, 118, 102, 114, 34, 92])[k].toNat : Int) == (s[1].toNat : Int)) = false := by assumption
        go_roundw
        case rel => exact ⟨k + 1, by omega, by go_num, read_miss s[1] k hlt HA.out ht, _, rfl⟩
        case measure => simp [intOf]; omega
    · have hk9 : k = 9 := by omega
      subst hk9
      have hi : ¬ (0 : Int) ≤ Lib.indexByte Pq.letters s[1] := by rw [index_none Pq.letters s[1] HA.out]; omega
      clear HA hk hlt
      have HV := hid (rb_few s h2 h4 H0.out hi)
      have dB : decide ((s.size : Int) < 4) = true := decide_eq_true (by omega)
      clear hi H0
      go_wp2
      go_ret2
      exact ⟨by rw [rbV_none HV.out]; rfl, _, rfl⟩

set_option maxHeartbeats 2000000 in
theorem read_one (s : ByteArray) (w : World) (hs : s.size ≤ maxLen) (h2 : 2 ≤ s.size) (h0 : s[0] = 92) (h4 : 4 ≤ s.size) (o1 : Pq.oct s[1] = false) :
    Calls Tryz.prog 98 #[.string s] w fun e w' => e = .returned (.tuple #[.int .u8 (rbV s).1.toNat, .int .i64 (rbV s).2]) ∧ ∃ m, w' = w.drewN m := by
  unfold maxLen at hs
  have e0 : ((s[0].toNat : Int) != 92) = false := by rw [h0]; rfl
  have dA : decide ((s.size : Int) < 2) = false := decide_eq_false (by omega)
  have h21 : (1 : Int) < (s.size : Int) := by omega
  have dB : decide ((s.size : Int) < 4) = false := decide_eq_false (by omega)
  have h23 : (2 : Int) < (s.size : Int) := by omega
  have h33 : (3 : Int) < (s.size : Int) := by omega
  have O1 := hid (octN_no o1)
  have OO := hid o1
  clear o1
  have H0 := hid h0
  clear h0
  have c1 := s[1].toNat_lt
  go_enter Tryz.func98, Tryz.ntmps98
  go_wp2
  go_loopw [4] (fun i wr => ∃ k : Nat, k ≤ 9 ∧ i = .int .i64 k ∧ s[1] ∉ Pq.letters.take k ∧ ∃ m, wr = w.drewN m) (fun i _ => 9 - (intOf i).toNat)
  case atStart => exact ⟨0, Nat.zero_le _, rfl, by simp, 0, rfl⟩
  case round =>
    obtain ⟨k, hk, rfl, ha, m, rfl⟩ := hrel
    have HA := hid ha
    clear ha
    by_cases hlt : k < 9
    · have hlt' : (k : Int) < 9 := by omega
      go_wp2
      go_quiet (fail)
      go_wp2
      · have ht : (((ByteArray.mk #[97, 98, 116, 110, 118, 102, 114, 34, 92])[k].toNat : Int) == (s[1].toNat : Int)) = true := by assumption
        go_ret2
        exact ⟨by rw [read_hit s k hlt h2 H0.out HA.out ht]; rfl, _, rfl⟩
      · have ht : (((ByteArray.mk #[97, 98, 116, 110, 118, 102, 114, 34, 92])[k].toNat : Int) == (s[1].toNat : Int)) = false := by assumption
        go_roundw
        case rel => exact ⟨k + 1, by omega, by go_num, read_miss s[1] k hlt HA.out ht, _, rfl⟩
        case measure => simp [intOf]; omega
    · have hk9 : k = 9 := by omega
      subst hk9
      have hi : ¬ (0 : Int) ≤ Lib.indexByte Pq.letters s[1] := by rw [index_none Pq.letters s[1] HA.out]; omega
      clear HA hk hlt
      have HV : Hid (Pq.rb s.data.toList = none) := hid (by rw [rb_four s h4 H0.out hi, OO.out]; simp)
      clear hi H0 OO
      go_wp2_with fail
      refine (octal_any _ _).mono ?_
      rintro e w' ⟨rfl, rfl⟩
      rw [O1.out]
      go_wp2
      go_ret2
      exact ⟨by rw [rbV_none HV.out]; rfl, _, rfl⟩

set_option maxHeartbeats 2000000 in
theorem read_high (s : ByteArray) (w : World) (hs : s.size ≤ maxLen) (h2 : 2 ≤ s.size) (h0 : s[0] = 92) (h4 : 4 ≤ s.size) (x : Nat) (O1 : Hid (octN s[1] = x)) (x1 : s[1].toNat = 48 + x) (x8 : x < 8) (hx : 3 < x) :
    Calls Tryz.prog 98 #[.string s] w fun e w' => e = .returned (.tuple #[.int .u8 (rbV s).1.toNat, .int .i64 (rbV s).2]) ∧ ∃ m, w' = w.drewN m := by
  unfold maxLen at hs
  have e0 : ((s[0].toNat : Int) != 92) = false := by rw [h0]; rfl
  have dA : decide ((s.size : Int) < 2) = false := decide_eq_false (by omega)
  have h21 : (1 : Int) < (s.size : Int) := by omega
  have dB : decide ((s.size : Int) < 4) = false := decide_eq_false (by omega)
  have h23 : (2 : Int) < (s.size : Int) := by omega
  have h33 : (3 : Int) < (s.size : Int) := by omega
  have dx : decide ((3 : Int) < (x : Int)) = true := decide_eq_true (by omega)
  have X1 := hid x1
  clear x1
  have H0 := hid h0
  clear h0
  have c1 := s[1].toNat_lt
  go_enter Tryz.func98, Tryz.ntmps98
  go_wp2
  go_loopw [4] (fun i wr => ∃ k : Nat, k ≤ 9 ∧ i = .int .i64 k ∧ s[1] ∉ Pq.letters.take k ∧ ∃ m, wr = w.drewN m) (fun i _ => 9 - (intOf i).toNat)
  case atStart => exact ⟨0, Nat.zero_le _, rfl, by simp, 0, rfl⟩
  case round =>
    obtain ⟨k, hk, rfl, ha, m, rfl⟩ := hrel
    have HA := hid ha
    clear ha
    by_cases hlt : k < 9
    · have hlt' : (k : Int) < 9 := by omega
      go_wp2
      go_quiet (fail)
      go_wp2
      · have ht : (((ByteArray.mk #[97, 98, 116, 110, 118, 102, 114, 34, 92])[k].toNat : Int) == (s[1].toNat : Int)) = true := by assumption
        go_ret2
        exact ⟨by rw [read_hit s k hlt h2 H0.out HA.out ht]; rfl, _, rfl⟩
      · have ht : (((ByteArray.mk #[97, 98, 116, 110, 118, 102, 114, 34, 92])[k].toNat : Int) == (s[1].toNat : Int)) = false := by assumption
        go_roundw
        case rel => exact ⟨k + 1, by omega, by go_num, read_miss s[1] k hlt HA.out ht, _, rfl⟩
        case measure => simp [intOf]; omega
    · have hk9 : k = 9 := by omega
      subst hk9
      have hi : ¬ (0 : Int) ≤ Lib.indexByte Pq.letters s[1] := by rw [index_none Pq.letters s[1] HA.out]; omega
      clear HA hk hlt
      have HV : Hid (Pq.rb s.data.toList = none) := hid (by rw [rb_four s h4 H0.out hi, if_neg (by have := X1.out; omega)])
      clear hi H0 X1
      go_wp2_with fail
      refine (octal_any _ _).mono ?_
      rintro e w' ⟨rfl, rfl⟩
      rw [O1.out]
      go_wp2_with fail
      refine (octal_any _ _).mono ?_
      rintro e w' ⟨rfl, rfl⟩
      rw [O1.out]
      go_wp2
      go_ret2
      exact ⟨by rw [rbV_none HV.out]; rfl, _, rfl⟩

set_option maxHeartbeats 2000000 in
theorem read_two (s : ByteArray) (w : World) (hs : s.size ≤ maxLen) (h2 : 2 ≤ s.size) (h0 : s[0] = 92) (h4 : 4 ≤ s.size) (x : Nat) (O1 : Hid (octN s[1] = x)) (_x8 : x < 8) (hx : ¬ 3 < x) (o2 : Pq.oct s[2] = false) :
    Calls Tryz.prog 98 #[.string s] w fun e w' => e = .returned (.tuple #[.int .u8 (rbV s).1.toNat, .int .i64 (rbV s).2]) ∧ ∃ m, w' = w.drewN m := by
  unfold maxLen at hs
  have e0 : ((s[0].toNat : Int) != 92) = false := by rw [h0]; rfl
  have dA : decide ((s.size : Int) < 2) = false := decide_eq_false (by omega)
  have h21 : (1 : Int) < (s.size : Int) := by omega
  have dB : decide ((s.size : Int) < 4) = false := decide_eq_false (by omega)
  have h23 : (2 : Int) < (s.size : Int) := by omega
  have h33 : (3 : Int) < (s.size : Int) := by omega
  have dx : decide ((3 : Int) < (x : Int)) = false := decide_eq_false (by omega)
  have O2 := hid (octN_no o2)
  have OO := hid o2
  clear o2
  have H0 := hid h0
  clear h0
  have c1 := s[1].toNat_lt
  go_enter Tryz.func98, Tryz.ntmps98
  go_wp2
  go_loopw [4] (fun i wr => ∃ k : Nat, k ≤ 9 ∧ i = .int .i64 k ∧ s[1] ∉ Pq.letters.take k ∧ ∃ m, wr = w.drewN m) (fun i _ => 9 - (intOf i).toNat)
  case atStart => exact ⟨0, Nat.zero_le _, rfl, by simp, 0, rfl⟩
  case round =>
    obtain ⟨k, hk, rfl, ha, m, rfl⟩ := hrel
    have HA := hid ha
    clear ha
    by_cases hlt : k < 9
    · have hlt' : (k : Int) < 9 := by omega
      go_wp2
      go_quiet (fail)
      go_wp2
      · have ht : (((ByteArray.mk #[97, 98, 116, 110, 118, 102, 114, 34, 92])[k].toNat : Int) == (s[1].toNat : Int)) = true := by assumption
        go_ret2
        exact ⟨by rw [read_hit s k hlt h2 H0.out HA.out ht]; rfl, _, rfl⟩
      · have ht : (((ByteArray.mk #[97, 98, 116, 110, 118, 102, 114, 34, 92])[k].toNat : Int) == (s[1].toNat : Int)) = false := by assumption
        go_roundw
        case rel => exact ⟨k + 1, by omega, by go_num, read_miss s[1] k hlt HA.out ht, _, rfl⟩
        case measure => simp [intOf]; omega
    · have hk9 : k = 9 := by omega
      subst hk9
      have hi : ¬ (0 : Int) ≤ Lib.indexByte Pq.letters s[1] := by rw [index_none Pq.letters s[1] HA.out]; omega
      clear HA hk hlt
      have HV : Hid (Pq.rb s.data.toList = none) := hid (by rw [rb_four s h4 H0.out hi, OO.out]; simp)
      clear hi H0 OO
      go_wp2_with fail
      refine (octal_any _ _).mono ?_
      rintro e w' ⟨rfl, rfl⟩
      rw [O1.out]
      go_wp2_with fail
      refine (octal_any _ _).mono ?_
      rintro e w' ⟨rfl, rfl⟩
      rw [O1.out]
      go_wp2_with fail
      refine (octal_any _ _).mono ?_
      rintro e w' ⟨rfl, rfl⟩
      rw [O2.out]
      go_wp2
      go_ret2
      exact ⟨by rw [rbV_none HV.out]; rfl, _, rfl⟩

set_option maxHeartbeats 2000000 in
theorem read_three (s : ByteArray) (w : World) (hs : s.size ≤ maxLen) (h2 : 2 ≤ s.size) (h0 : s[0] = 92) (h4 : 4 ≤ s.size) (x : Nat) (O1 : Hid (octN s[1] = x)) (_x8 : x < 8) (hx : ¬ 3 < x) (y : Nat) (O2 : Hid (octN s[2] = y)) (_y8 : y < 8) (o3 : Pq.oct s[3] = false) :
    Calls Tryz.prog 98 #[.string s] w fun e w' => e = .returned (.tuple #[.int .u8 (rbV s).1.toNat, .int .i64 (rbV s).2]) ∧ ∃ m, w' = w.drewN m := by
  unfold maxLen at hs
  have e0 : ((s[0].toNat : Int) != 92) = false := by rw [h0]; rfl
  have dA : decide ((s.size : Int) < 2) = false := decide_eq_false (by omega)
  have h21 : (1 : Int) < (s.size : Int) := by omega
  have dB : decide ((s.size : Int) < 4) = false := decide_eq_false (by omega)
  have h23 : (2 : Int) < (s.size : Int) := by omega
  have h33 : (3 : Int) < (s.size : Int) := by omega
  have dx : decide ((3 : Int) < (x : Int)) = false := decide_eq_false (by omega)
  have O3 := hid (octN_no o3)
  have OO := hid o3
  clear o3
  have H0 := hid h0
  clear h0
  have c1 := s[1].toNat_lt
  go_enter Tryz.func98, Tryz.ntmps98
  go_wp2
  go_loopw [4] (fun i wr => ∃ k : Nat, k ≤ 9 ∧ i = .int .i64 k ∧ s[1] ∉ Pq.letters.take k ∧ ∃ m, wr = w.drewN m) (fun i _ => 9 - (intOf i).toNat)
  case atStart => exact ⟨0, Nat.zero_le _, rfl, by simp, 0, rfl⟩
  case round =>
    obtain ⟨k, hk, rfl, ha, m, rfl⟩ := hrel
    have HA := hid ha
    clear ha
    by_cases hlt : k < 9
    · have hlt' : (k : Int) < 9 := by omega
      go_wp2
      go_quiet (fail)
      go_wp2
      · have ht : (((ByteArray.mk #[97, 98, 116, 110, 118, 102, 114, 34, 92])[k].toNat : Int) == (s[1].toNat : Int)) = true := by assumption
        go_ret2
        exact ⟨by rw [read_hit s k hlt h2 H0.out HA.out ht]; rfl, _, rfl⟩
      · have ht : (((ByteArray.mk #[97, 98, 116, 110, 118, 102, 114, 34, 92])[k].toNat : Int) == (s[1].toNat : Int)) = false := by assumption
        go_roundw
        case rel => exact ⟨k + 1, by omega, by go_num, read_miss s[1] k hlt HA.out ht, _, rfl⟩
        case measure => simp [intOf]; omega
    · have hk9 : k = 9 := by omega
      subst hk9
      have hi : ¬ (0 : Int) ≤ Lib.indexByte Pq.letters s[1] := by rw [index_none Pq.letters s[1] HA.out]; omega
      clear HA hk hlt
      have HV : Hid (Pq.rb s.data.toList = none) := hid (by rw [rb_four s h4 H0.out hi, OO.out]; simp)
      clear hi H0 OO
      go_wp2_with fail
      refine (octal_any _ _).mono ?_
      rintro e w' ⟨rfl, rfl⟩
      rw [O1.out]
      go_wp2_with fail
      refine (octal_any _ _).mono ?_
      rintro e w' ⟨rfl, rfl⟩
      rw [O1.out]
      go_wp2_with fail
      refine (octal_any _ _).mono ?_
      rintro e w' ⟨rfl, rfl⟩
      rw [O2.out]
      go_wp2_with fail
      refine (octal_any _ _).mono ?_
      rintro e w' ⟨rfl, rfl⟩
      rw [O3.out]
      go_wp2
      go_ret2
      exact ⟨by rw [rbV_none HV.out]; rfl, _, rfl⟩

set_option maxHeartbeats 2000000 in
theorem read_all (s : ByteArray) (w : World) (hs : s.size ≤ maxLen) (h2 : 2 ≤ s.size) (h0 : s[0] = 92) (h4 : 4 ≤ s.size) (x : Nat) (O1 : Hid (octN s[1] = x)) (_x8 : x < 8) (hx : ¬ 3 < x) (y : Nat) (O2 : Hid (octN s[2] = y)) (_y8 : y < 8) (z : Nat) (O3 : Hid (octN s[3] = z)) (_z8 : z < 8) (HV0 : Hid (Lib.indexByte Pq.letters s[1] < 0 → Pq.rb s.data.toList = some ((x * 64 + y * 8 + z).toUInt8, 4))) :
    Calls Tryz.prog 98 #[.string s] w fun e w' => e = .returned (.tuple #[.int .u8 (rbV s).1.toNat, .int .i64 (rbV s).2]) ∧ ∃ m, w' = w.drewN m := by
  unfold maxLen at hs
  have e0 : ((s[0].toNat : Int) != 92) = false := by rw [h0]; rfl
  have dA : decide ((s.size : Int) < 2) = false := decide_eq_false (by omega)
  have h21 : (1 : Int) < (s.size : Int) := by omega
  have dB : decide ((s.size : Int) < 4) = false := decide_eq_false (by omega)
  have h23 : (2 : Int) < (s.size : Int) := by omega
  have h33 : (3 : Int) < (s.size : Int) := by omega
  have dx : decide ((3 : Int) < (x : Int)) = false := decide_eq_false (by omega)
  have H0 := hid h0
  clear h0
  have c1 := s[1].toNat_lt
  go_enter Tryz.func98, Tryz.ntmps98
  go_wp2
  go_loopw [4] (fun i wr => ∃ k : Nat, k ≤ 9 ∧ i = .int .i64 k ∧ s[1] ∉ Pq.letters.take k ∧ ∃ m, wr = w.drewN m) (fun i _ => 9 - (intOf i).toNat)
  case atStart => exact ⟨0, Nat.zero_le _, rfl, by simp, 0, rfl⟩
  case round =>
    obtain ⟨k, hk, rfl, ha, m, rfl⟩ := hrel
    have HA := hid ha
    clear ha
    by_cases hlt : k < 9
    · have hlt' : (k : Int) < 9 := by omega
      go_wp2
      go_quiet (fail)
      go_wp2
      · have ht : (((ByteArray.mk #[97, 98, 116, 110, 118, 102, 114, 34, 92])[k].toNat : Int) == (s[1].toNat : Int)) = true := by assumption
        go_ret2
        exact ⟨by rw [read_hit s k hlt h2 H0.out HA.out ht]; rfl, _, rfl⟩
      · have ht : (((ByteArray.mk #[97, 98, 116, 110, 118, 102, 114, 34, 92])[k].toNat : Int) == (s[1].toNat : Int)) = false := by assumption
        go_roundw
        case rel => exact ⟨k + 1, by omega, by go_num, read_miss s[1] k hlt HA.out ht, _, rfl⟩
        case measure => simp [intOf]; omega
    · have hk9 : k = 9 := by omega
      subst hk9
      have hi : ¬ (0 : Int) ≤ Lib.indexByte Pq.letters s[1] := by rw [index_none Pq.letters s[1] HA.out]; omega
      clear HA hk hlt
      have HV := hid (HV0.out (by omega))
      generalize hW : w.drewN m = W
      have HW := hid hW
      clear hW
      have b1 : 0 ≤ octN s[1] ∧ octN s[1] ≤ 3 := by rw [O1.out]; omega
      have b2 : 0 ≤ octN s[2] ∧ octN s[2] ≤ 7 := by rw [O2.out]; omega
      have b3 : 0 ≤ octN s[3] ∧ octN s[3] ≤ 7 := by rw [O3.out]; omega
      go_wp2_with fail
      refine (octal_any _ _).mono ?_
      rintro e w' ⟨rfl, rfl⟩
      rw [O1.out]
      go_wp2_with fail
      refine (octal_any _ _).mono ?_
      rintro e w' ⟨rfl, rfl⟩
      rw [O1.out]
      go_wp2_with fail
      refine (octal_any _ _).mono ?_
      rintro e w' ⟨rfl, rfl⟩
      rw [O2.out]
      go_wp2_with fail
      refine (octal_any _ _).mono ?_
      rintro e w' ⟨rfl, rfl⟩
      rw [O3.out]
      go_wp2
      go_quiet (first | (go_at_call 121; exact Calls.quiet_of_same (octal_any _ _)))
      go_wp2
      go_ret2
      refine ⟨?_, _, by rw [← HW.out]; exact World.drewN_drewN _ _ _⟩
      rw [rbV_some HV.out]
      refine ret_two (congrArg (Value.int .u8) ?_) rfl
      rw [byte_of _ (by omega)]
      rw [O1.out, O2.out, O3.out]
      omega


theorem read_any (s : ByteArray) (w : World) (hs : s.size ≤ maxLen) (h1 : 1 ≤ s.size) (h0 : s[0] = 92) :
    Calls Tryz.prog 98 #[.string s] w fun e w' => e = .returned (.tuple #[.int .u8 (rbV s).1.toNat, .int .i64 (rbV s).2]) ∧ ∃ m, w' = w.drewN m := by
  by_cases h2 : s.size < 2
  · exact read_short s w h1 h2 h0
  · have h2' : 2 ≤ s.size := by omega
    by_cases h4 : s.size < 4
    · exact read_few s w hs h2' h0 h4
    · have h4' : 4 ≤ s.size := by omega
      cases o1 : Pq.oct s[1] with
      | false => exact read_one s w hs h2' h0 h4' o1
      | true =>
        obtain ⟨x, O1, x1, x8⟩ := octN_yes o1
        by_cases hx : 3 < x
        · exact read_high s w hs h2' h0 h4' x O1 x1 x8 hx
        · cases o2 : Pq.oct s[2] with
          | false => exact read_two s w hs h2' h0 h4' x O1 x8 hx o2
          | true =>
            obtain ⟨y, O2, y1, y8⟩ := octN_yes o2
            cases o3 : Pq.oct s[3] with
            | false => exact read_three s w hs h2' h0 h4' x O1 x8 hx y O2 y8 o3
            | true =>
              obtain ⟨z, O3, z1, z8⟩ := octN_yes o3
              refine read_all s w hs h2' h0 h4' x O1 x8 hx y O2 y8 z O3 z8 (hid fun hi => ?_)
              rw [rb_four s h4' h0 (by omega), if_pos ⟨o1, o2, o3, by omega⟩, x1, y1, z1]
              simp
end Go.Proofs.YtobocdbehjcpjaaGreatDoor.Cx
/-
  The walk of the document's Unquote: for every string.
-/
namespace Go.Proofs.YtobocdbehjcpjaaGreatDoor.Cx
open Go.RowKit

/-- what the document answers: a name and the rest, or the error's number -/
def tupR : Option (List UInt8 × List UInt8) → Value
  | none => .tuple #[.string ⟨#[]⟩, .string ⟨#[]⟩, .int .i64 20]
  | some (a, r) => .tuple #[.string ⟨a.toArray⟩, .string ⟨r.toArray⟩, .int .i64 0]

theorem ext_head (s : ByteArray) (k : Nat) (h : k < s.size) (h1 : 1 ≤ (s.extract k s.size).size) : (s.extract k s.size)[0] = s[k] := by
  have e := data1 _ h1
  rw [ext_drop s k (by omega), drop_head s k h] at e
  exact (List.cons.inj e).1.symm
theorem rq_at (s : ByteArray) (out : List UInt8) (k : Nat) (h : k < s.size) (h10 : s[k].toNat ≠ 10) (h34 : s[k].toNat ≠ 34) :
    ((rbV (s.extract k s.size)).2 = 0 ∧ Pq.rq out (s.data.toList.drop k) = none) ∨
    (1 ≤ (rbV (s.extract k s.size)).2 ∧ k + (rbV (s.extract k s.size)).2 ≤ s.size ∧ Pq.rq out (s.data.toList.drop k) = Pq.rq (out ++ [(rbV (s.extract k s.size)).1]) (s.data.toList.drop (k + (rbV (s.extract k s.size)).2))) := by
  have hx : (s.extract k s.size).size = s.size - k := by simp
  have h1 : 1 ≤ (s.extract k s.size).size := by omega
  have he := ext_head s k h h1
  have hd := ext_drop s k (by omega)
  rcases rq_byte (s.extract k s.size) out h1 (by rw [he]; exact h10) (by rw [he]; exact h34) with ⟨a, b⟩ | ⟨a, b, c⟩
  · exact .inl ⟨a, by rw [← hd]; exact b⟩
  · refine .inr ⟨a, by omega, ?_⟩
    rw [hd, List.drop_drop] at c
    exact c
theorem rq_self (s : ByteArray) (out : List UInt8) (k : Nat) (h : k < s.size) (h10 : s[k].toNat ≠ 10) (h34 : s[k].toNat ≠ 34) (h92 : s[k].toNat ≠ 92) :
    Pq.rq out (s.data.toList.drop k) = Pq.rq (out ++ [s[k]]) (s.data.toList.drop (k + 1)) := by
  rw [drop_head s k h]
  have n10 : s[k] ≠ 10 := fun e => h10 (by rw [e]; rfl)
  have n34 : s[k] ≠ 34 := fun e => h34 (by rw [e]; rfl)
  have n92 : s[k] ≠ 92 := fun e => h92 (by rw [e]; rfl)
  rw [Pq.rq_some out (s.data.toList.drop (k + 1)) s[k] s[k] 1 n10 n34 (by simp only [Pq.rb, ne_eq, n92, not_false_eq_true, if_true])]
  rfl

set_option maxRecDepth 100000 in
set_option maxHeartbeats 2000000 in
theorem refUnquote_plain (s : ByteArray) (w : World) (hs : s.size ≤ 140737488355327) (hno : s.size = 0 ∨ ∃ h1 : 1 ≤ s.size, s[0].toNat ≠ 34) :
    Calls Tryz.prog 65 #[.string s] w fun e w' => e = .returned (tupR (Pq.unq s.data.toList)) ∧ Below w.heap.size w w' := by
  have HU := hid (unq_no s hno)
  have HA := hid (ext_take' s (pl s))
  have HB := hid (ext_drop' s (pl s) (pl_le s))
  have htest : Hid (s.size = 0 ∧ s.toList.isEmpty = true ∨ ∃ h1 : 1 ≤ s.size, s.toList.isEmpty = false ∧ ((s[0].toNat : Int) != 34) = true) := hid (by
    rcases hno with h | ⟨h1, h⟩
    · exact .inl ⟨h, empty_yes s h⟩
    · exact .inr ⟨h1, empty_no s (by omega), by rw [bne_iff_ne]; omega⟩)
  clear hno
  go_enter Tryz.func65, Tryz.ntmps65
  rcases htest.out with ⟨h0, he⟩ | ⟨h1, he, e34⟩
  case' inl => clear htest h0; go_wp2
  case' inr => clear htest; go_wp2
  all_goals
    go_loop [6] (fun i => ∃ k : Nat, k ≤ s.size ∧ i = .int .i64 k ∧ (s.data.toList.take k).all Pq.plain = true) (fun i => s.size - (intOf i).toNat)
    case atStart => exact ⟨0, Nat.zero_le _, rfl, rfl⟩
    case round =>
      obtain ⟨k, hk, rfl, ha⟩ := hrel
      have HP := hid ha
      clear ha
      by_cases hlt : k < s.size
      · have hc := s[k].toNat_lt
        have hlt' : (k : Int) < (s.size : Int) := by omega
        by_cases hpl : s[k].toNat = 9 ∨ s[k].toNat = 10
        · have HK : Hid (pl s = k) := hid (while_hit s k hlt Pq.plain HP.out (by simp [Pq.plain]; omega))
          have hk2 : (k : Int) ≤ (s.size : Int) := by omega
          rw [HK.out] at HU HA HB
          by_cases h9 : s[k].toNat = 9
          · have e9 : ((s[k].toNat : Int) != 9) = false := by rw [h9]; rfl
            clear h9 hpl
            go_wp2
            go_quiet (fail)
            go_wp2
            go_ret3
            exact ⟨by rw [HU.out]; exact ret_threeQ (congrArg Value.string HA.out) (congrArg Value.string HB.out) rfl, below_drewN (Below.refl _ _) _⟩
          · have e9 : ((s[k].toNat : Int) != 9) = true := by rw [bne_iff_ne]; omega
            have h10 : s[k].toNat = 10 := by omega
            have e10 : ((s[k].toNat : Int) != 10) = false := by rw [h10]; rfl
            clear h9 h10 hpl
            go_wp2
            go_quiet (fail)
            go_wp2
            go_ret3
            exact ⟨by rw [HU.out]; exact ret_threeQ (congrArg Value.string HA.out) (congrArg Value.string HB.out) rfl, below_drewN (Below.refl _ _) _⟩
        · have e9 : ((s[k].toNat : Int) != 9) = true := by rw [bne_iff_ne]; omega
          have e10 : ((s[k].toNat : Int) != 10) = true := by rw [bne_iff_ne]; omega
          have HB2 := hid (all_snoc s k hlt Pq.plain HP.out (by simp [Pq.plain]; omega))
          clear hpl
          go_wp2
          go_round
          case rel => exact ⟨k + 1, by omega, by go_num, HB2.out⟩
          case measure => simp [intOf]; omega
      · have HK : Hid (pl s = k) := hid ((while_last s k (by omega) Pq.plain HP.out).trans (by omega))
        have hk2 : (k : Int) ≤ (s.size : Int) := by omega
        have dlt : decide ((k : Int) < (s.size : Int)) = false := decide_eq_false (by omega)
        rw [HK.out] at HU HA HB
        go_wp2
        go_quiet (fail)
        go_wp2
        go_ret3
        exact ⟨by rw [HU.out]; exact ret_threeQ (congrArg Value.string HA.out) (congrArg Value.string HB.out) rfl, below_drewN (Below.refl _ _) _⟩
end Go.Proofs.YtobocdbehjcpjaaGreatDoor.Cx
/-
  The walk of the document's Unquote where the text begins with a quote: for every string.
-/
namespace Go.Proofs.YtobocdbehjcpjaaGreatDoor.Cx
open Go.RowKit

set_option maxRecDepth 100000 in
set_option maxHeartbeats 4000000 in
theorem refUnquote_quoted (s : ByteArray) (w : World) (hs : s.size ≤ 140737488355327) (h1 : 1 ≤ s.size) (h34 : s[0].toNat = 34) :
    Calls Tryz.prog 65 #[.string s] w fun e w' => e = .returned (tupR (Pq.unq s.data.toList)) ∧ Below w.heap.size w w' := by
  obtain ⟨i0, hi, hz0, hz1, hz2⟩ := info_parts Tryz.infoByteX
  have HU := hid (unq_yes s h1 h34)
  have he := empty_no s (by omega)
  have e34 : ((s[0].toNat : Int) != 34) = false := by rw [h34]; rfl
  have h1' : (0 : Int) < (s.size : Int) := by omega
  clear h34
  go_enter Tryz.func65, Tryz.ntmps65
  go_wp2
  go_loopw [5, 7] (fun v i wr => ∃ (k : Nat) (out : List UInt8), k ≤ s.size ∧ i = .int .i64 k ∧ out.length ≤ k ∧ Pq.rq out (s.data.toList.drop k) = Pq.rq [] (s.data.toList.drop 1) ∧
      wr.ownsRow w.heap.size 5 1 v out.length (Lib.byteCells out) ∧ Below w.heap.size w wr) (fun _ i _ => s.size - (intOf i).toNat)
  case atStart => exact ⟨1, [], h1, rfl, Nat.zero_le _, rfl, World.ownsRow_nil _ _ _ _, Below.refl _ _⟩
  case round =>
    obtain ⟨k, out, hk, rfl, hol, hq, hown, hb⟩ := hrel
    have hz := hb.size
    have HQ := hid hq
    clear hq
    by_cases hlt : k < s.size
    · have hlt' : (k : Int) < (s.size : Int) := by omega
      have dge : decide ((s.size : Int) ≤ (k : Int)) = false := decide_eq_false (by omega)
      have hc := s[k].toNat_lt
      by_cases c34 : s[k].toNat = 34
      · have t34 : ((s[k].toNat : Int) != 34) = false := by rw [c34]; rfl
        have t10 := ine (m := 10) (by omega : (s[k].toNat : Int) ≠ 10)
        have HR : Hid (Pq.unq s.data.toList = some (out, s.data.toList.drop (k + 1))) := hid (by
          rw [HU.out, ← HQ.out, drop_head s k hlt, UInt8.toNat_inj.1 (show s[k].toNat = (34 : UInt8).toNat from c34), Pq.rq_mark])
        have HX := hid (ext_drop' s (k + 1) (by omega))
        have hk1 : (k : Int) + 1 ≤ (s.size : Int) := by omega
        have hcv := conv_own (own_stays hown (Below.refl _ _).drew)
        clear c34 HQ HU hown
        go_wp2
        go_region
        all_goals go_wp2
        all_goals go_ret3
        all_goals exact ⟨by rw [HR.out]; exact ret_threeQ rfl (congrArg Value.string HX.out) rfl, hb.drew⟩
      · have t34 : ((s[k].toNat : Int) != 34) = true := by rw [bne_iff_ne]; omega
        by_cases c10 : s[k].toNat = 10
        · have t10 : ((s[k].toNat : Int) != 10) = false := by rw [c10]; rfl
          have t10' := ieq (m := 10) (by omega : (s[k].toNat : Int) = 10)
          have HR : Hid (Pq.unq s.data.toList = none) := hid (by
            rw [HU.out, ← HQ.out, drop_head s k hlt, UInt8.toNat_inj.1 (show s[k].toNat = (10 : UInt8).toNat from c10), Pq.rq_end])
          clear c34 c10 HQ HU hown
          go_wp2
          go_ret3
          exact ⟨by rw [HR.out]; rfl, hb⟩
        · have t10 : ((s[k].toNat : Int) != 10) = true := by rw [bne_iff_ne]; omega
          by_cases c92 : s[k].toNat = 92
          · have t92 : ((s[k].toNat : Int) != 92) = false := by rw [c92]; rfl
            have hx : (s.extract k s.size).size = s.size - k := by simp
            have hx1 : 1 ≤ (s.extract k s.size).size := by omega
            have h92 : (s.extract k s.size)[0] = 92 := by
              rw [ext_head s k hlt hx1]
              exact UInt8.toNat_inj.1 (show s[k].toNat = (92 : UInt8).toNat from c92)
            have HC := hid (read_any (s.extract k s.size) wr (by unfold maxLen; omega) hx1 h92)
            have hr := rq_at s out k hlt c10 c34
            obtain ⟨bk, hbk⟩ : ∃ bk, bk = rbV (s.extract k s.size) := ⟨_, rfl⟩
            rw [← hbk] at HC hr
            obtain ⟨c, n⟩ := bk
            simp only at HC hr
            clear hx hx1 h92 c92 c10 c34 hbk
            rcases hr with ⟨rfl, hr⟩ | ⟨n1, n2, hr⟩
            · have HR : Hid (Pq.unq s.data.toList = none) := hid (by rw [HU.out, ← HQ.out, hr])
              clear HQ HU hown hr
              go_wp2_with fail
              refine HC.out.mono ?_
              rintro e w2 ⟨rfl, m, rfl⟩
              go_wp2
              go_ret3
              exact ⟨by rw [HR.out]; rfl, below_drewN hb _⟩
            · have HR := hid (HQ.out.symm.trans hr)
              have hn0 := ine (m := 0) (by omega : (n : Int) ≠ 0)
              clear HQ hr
              go_wp2_with fail
              refine HC.out.mono ?_
              rintro e w2 ⟨rfl, m, rfl⟩
              have hown2 := own_stays hown (below_drewN (Below.refl _ wr) m)
              have hb2 := below_drewN hb m
              have hzm := hb2.size
              clear HC hown hb
              generalize wr.drewN m = wd at hown2 hb2 hzm ⊢
              go_wp2_with (at_builtin; refine wpList_append_own _ rfl _ _ 63 rfl w.heap.size 5 i0 (.int .u8 0) 1 1 Tryz.underlying63 hi hz0 hz1 hz2 rfl (by decide) _ _ _ rfl (hown2.alloc _) ⟨wd.heap.size, 0, none⟩ 1 1 [.int .u8 c.toNat] rfl rfl ?a1 ?a2 ?a3 ?a4 ?a5 ?_)
              case a1 =>
                intro j u hj
                match j, hj with
                | 0, hj => simp at hj; subst hj; simp [Addr.add]
              case a2 => intro u hu; simp at hu; subst hu; rfl
              case a3 => unfold maxLen; omega
              case a4 => omega
              case a5 => simp; omega
              intro v' w3 hown3 hgrow3 _
              have hb3 : Below w.heap.size w w3 := (hb2.alloc hzm _).grown hgrow3 (by simp; omega) (own_ge hown2)
              have hown4 := byte_own (c := c) hown3
              have HO4 := hid hown4
              clear hown3 hgrow3 hown2 hb2 hown4
              go_wp2
              go_roundw
              case rel => exact ⟨k + n, out ++ [c], by omega, by go_num, by simp; omega, HR.out.symm, HO4.out, hb3⟩
              case measure => simp [intOf]; omega
          · have t92 : ((s[k].toNat : Int) != 92) = true := by rw [bne_iff_ne]; omega
            have HR := hid (HQ.out.symm.trans (rq_self s out k hlt c10 c34 c92))
            clear c34 c10 c92 HQ
            go_wp2_with (at_builtin; refine wpList_append_own _ rfl _ _ 63 rfl w.heap.size 5 i0 (.int .u8 0) 1 1 Tryz.underlying63 hi hz0 hz1 hz2 rfl (by decide) _ _ _ rfl (hown.alloc _) ⟨wr.heap.size, 0, none⟩ 1 1 [.int .u8 s[k].toNat] rfl rfl ?b1 ?b2 ?b3 ?b4 ?b5 ?_)
            case b1 =>
              intro j u hj
              match j, hj with
              | 0, hj => simp at hj; subst hj; simp [Addr.add]
            case b2 => intro u hu; simp at hu; subst hu; rfl
            case b3 => unfold maxLen; omega
            case b4 => omega
            case b5 => simp; omega
            intro v' w3 hown3 hgrow3 _
            have hb3 : Below w.heap.size w w3 := (hb.alloc hz _).grown hgrow3 (by simp; omega) (own_ge hown)
            have hown4 := byte_own (c := s[k]) hown3
            have HO4 := hid hown4
            clear hown3 hgrow3 hown hb hown4
            go_wp2
            go_roundw
            case rel => exact ⟨k + 1, out ++ [s[k]], by omega, by go_num, by simp; omega, HR.out.symm, HO4.out, hb3⟩
            case measure => simp [intOf]; omega
    · have HR : Hid (Pq.unq s.data.toList = none) := hid (by rw [HU.out, ← HQ.out, nil_of s k (by omega), Pq.rq_nil])
      have dlt : decide ((k : Int) < (s.size : Int)) = false := decide_eq_false (by omega)
      have dge : decide ((s.size : Int) ≤ (k : Int)) = true := decide_eq_true (by omega)
      clear HQ HU hown
      go_wp2
      go_ret3
      exact ⟨by rw [HR.out]; rfl, hb⟩

theorem refUnquote_any (s : ByteArray) (w : World) (hs : s.size ≤ 140737488355327) :
    Calls Tryz.prog 65 #[.string s] w fun e w' => e = .returned (tupR (Pq.unq s.data.toList)) ∧ Below w.heap.size w w' := by
  by_cases h0 : s.size = 0
  · exact refUnquote_plain s w hs (.inl h0)
  · by_cases h34 : s[0].toNat = 34
    · exact refUnquote_quoted s w hs (by omega) h34
    · exact refUnquote_plain s w hs (.inr ⟨by omega, h34⟩)
end Go.Proofs.YtobocdbehjcpjaaGreatDoor.Cx
