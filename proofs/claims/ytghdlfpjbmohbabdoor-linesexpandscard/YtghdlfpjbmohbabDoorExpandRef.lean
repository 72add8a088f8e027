/-
  The walk of the document's Expand: for every text and every width.
-/
import Derived.Test.YtghdlfpjbmohbabDoorExpand
namespace Go.Proofs.YtghdlfpjbmohbabDoor
open Go.RowKit

theorem Tryd.infoByteX : (Tryd.prog.info? 5).map (fun i => (i.zero, i.size, i.bytes)) = some (some (.int .u8 0), 1, 1) := by kernel_rfl

theorem own_geX {w : World} {base n : Nat} {e : TypeId} {size : Nat} {v : Value} {xs : List Value} (h : w.ownsRow base e size v n xs) : ∀ k, v.ownBlock = some k → base ≤ k := by
  intro k hk
  rcases h.2 with ⟨hv, _⟩ | ⟨g, cap, cur, hv, hg, _⟩
  · subst hv; cases hk
  · subst hv; cases hk; exact hg
theorem BC_snoc (l : List UInt8) (c : UInt8) : Lib.byteCells (l ++ [c]) = Lib.byteCells l ++ [.int .u8 c.toNat] := by rw [Lib.byteCells_append]; rfl
theorem byte_own {w : World} {B : Nat} {v : Value} {l : List UInt8} {c : UInt8} (h : w.ownsRow B 5 1 v (l.length + 1) (Lib.byteCells l ++ [.int .u8 c.toNat])) :
    w.ownsRow B 5 1 v (l ++ [c]).length (Lib.byteCells (l ++ [c])) := by
  rw [BC_snoc, List.length_append]; exact h

theorem own_shape {w : World} {base n : Nat} {e : TypeId} {size : Nat} {v : Value} {xs : List Value} (h : w.ownsRow base e size v n xs) : ∃ a c, v = .slice a n c := by
  rcases h.2 with ⟨hv, hn⟩ | ⟨g, cap, cur, hv, _⟩
  · exact ⟨_, _, by rw [hv, hn]⟩
  · exact ⟨_, _, hv⟩

/-- string(b), b a row of bytes that the call itself made -/
theorem conv_ownX {w : World} {base : Nat} {v : Value} {l : List UInt8} (h : w.ownsRow base 5 1 v l.length (Lib.byteCells l)) :
    (convert 33 9 v).run Tryd.prog w = .ok (.string ⟨l.toArray⟩) w := by
  have h' := h
  rcases h.2 with ⟨hv, hn⟩ | ⟨g, cap, cur, hv, _⟩
  · subst hv
    rw [List.length_eq_zero_iff.1 hn]
    rw [run_convert_bytes_string w 33 9 5 none 0 0 Tryd.underlying33 Tryd.underlying5 Tryd.underlying9]
    simp [Conv.bytesToString]
    rfl
  · subst hv
    refine run_convert_bytes_back w 33 9 5 ⟨g, 0, none⟩ cap l Tryd.underlying33 Tryd.underlying5 Tryd.underlying9 fun j hj => ?_
    have := h'.cellAt j (by omega)
    have ea : (⟨g, 0, none⟩ : Addr).add j = ⟨g, j, none⟩ := by
      simp only [Addr.add, Nat.zero_add]
      split
      · next h0 => rw [h0]
      · rfl
    rw [ea, this]
    simp [Lib.byteCells, hj]

set_option maxHeartbeats 400000 in
theorem refExpand_arg (s : ByteArray) (wd : Int) (w : World) (h : wd < 1 ∨ 255 < wd) :
    Calls Tryd.prog 5 #[.string s, .int .i64 wd] w fun e w' => e = .returned (.tuple #[.string ⟨#[]⟩, .int .i64 1]) ∧ w' = w := by
  by_cases h1 : wd < 1
  · go_enter Tryd.func5, Tryd.ntmps5
    go_wp2
    go_ret2
    exact ⟨rfl, rfl⟩
  · have h2 : 255 < wd := by omega
    go_enter Tryd.func5, Tryd.ntmps5
    go_wp2
    go_ret2
    exact ⟨rfl, rfl⟩

set_option maxHeartbeats 400000 in
theorem refExpand_long (s : ByteArray) (wd : Nat) (w : World) (h1 : 1 ≤ wd) (h2 : wd ≤ 255) (hs : 4194304 < s.size) :
    Calls Tryd.prog 5 #[.string s, .int .i64 wd] w fun e w' => e = .returned (.tuple #[.string ⟨#[]⟩, .int .i64 2]) ∧ w' = w := by
  go_enter Tryd.func5, Tryd.ntmps5
  go_wp2
  go_ret2
  exact ⟨rfl, rfl⟩

/-- where the inner loop stands: so many blanks are there; the column is a multiple of the width just at the last -/
theorem mod_stop (col wd j : Nat) (h1 : 1 ≤ wd) (hj : 1 ≤ j) (hq : j ≤ wd - col % wd) : (col + j) % wd = 0 ↔ j = wd - col % wd := by
  have hm : col % wd < wd := Nat.mod_lt _ (by omega)
  have e : (col + j) % wd = (col % wd + j) % wd := by rw [Nat.add_mod, Nat.add_mod (col % wd) j, Nat.mod_mod]
  rw [e]
  constructor
  · intro h
    by_cases he : col % wd + j = wd
    · omega
    · rw [Nat.mod_eq_of_lt (by omega)] at h
      omega
  · intro h
    have : col % wd + j = wd := by omega
    rw [this, Nat.mod_self]

set_option maxRecDepth 100000 in
set_option maxHeartbeats 4000000 in
theorem refExpand_in (s : ByteArray) (wd : Nat) (w : World) (h1 : 1 ≤ wd) (h2 : wd ≤ 255) (hs : s.size ≤ 4194304) :
    Calls Tryd.prog 5 #[.string s, .int .i64 wd] w fun e w' =>
      ∃ t u, e = .returned (.tuple #[t, u]) ∧ (4194304 < (Pl.ex wd s.data.toList).1.length → t = .string ⟨#[]⟩ ∧ u = .int .i64 2) ∧
        (¬ 4194304 < (Pl.ex wd s.data.toList).1.length → t = .string ⟨(Pl.ex wd s.data.toList).1.toArray⟩ ∧ u = .int .i64 0) ∧ Below w.heap.size w w' := by
  obtain ⟨i0, hi, hz0, hz1, hz2⟩ := info_parts Tryd.infoByteX
  have d1 : decide ((wd : Int) < 1) = false := decide_eq_false (by omega)
  have d2 : decide ((255 : Int) < wd) = false := decide_eq_false (by omega)
  have d3 : decide ((4194304 : Int) < s.size) = false := decide_eq_false (by omega)
  go_enter Tryd.func5, Tryd.ntmps5
  go_wp2
  go_loopw [6, 7, 8] (fun v c i wr => ∃ k : Nat, k ≤ s.size ∧ i = .int .i64 k ∧ c = .int .i64 (Pl.ex wd (s.data.toList.take k)).2 ∧ (Pl.ex wd (s.data.toList.take k)).1.length ≤ 4194304 ∧
      wr.ownsRow w.heap.size 5 1 v (Pl.ex wd (s.data.toList.take k)).1.length (Lib.byteCells (Pl.ex wd (s.data.toList.take k)).1) ∧ Below w.heap.size w wr) (fun _ _ i _ => s.size - (intOf i).toNat)
  case atStart => exact ⟨0, Nat.zero_le _, rfl, rfl, Nat.zero_le _, World.ownsRow_nil _ _ _ _, Below.refl _ _⟩
  case round =>
    obtain ⟨k, hk, rfl, rfl, hlen, hown, hb⟩ := hrel
    have hz := hb.size
    by_cases hlt : k < s.size
    · have hst := hid (ex_at s wd k hlt)
      have hcol := (Pl.ex_all wd h1 h2 (s.data.toList.take k)).2.2.1
      have htk := Pl.ex_take wd h1 h2 s.data.toList (k + 1)
      obtain ⟨st, hste⟩ : ∃ st, st = Pl.ex wd (s.data.toList.take k) := ⟨_, rfl⟩
      rw [← hste] at hst hlen hcol hown ⊢
      clear hste
      obtain ⟨l, col⟩ := st
      simp only at hlen hcol hown ⊢
      by_cases h10 : s[k] = 10
      · have he10 : ((s[k].toNat : Int) == 10) = true := by rw [beq_iff_eq, (ten_iff _).2 h10]
        have HE : Hid (Pl.ex wd (s.data.toList.take (k + 1)) = (l ++ [10], 0)) := hid (by rw [hst.out, h10]; rfl)
        clear hst h10
        go_wp2_with (at_builtin; refine wpList_append_own _ rfl _ _ 33 rfl w.heap.size 5 i0 (.int .u8 0) 1 1 Tryd.underlying33 hi hz0 hz1 hz2 rfl (by decide) _ _ _ rfl (hown.alloc _) ⟨wr.heap.size, 0, none⟩ 1 1 [.int .u8 10] rfl rfl ?a1 ?a2 ?a3 ?a4 ?a5 ?_)
        case a1 =>
          intro j u hj
          match j, hj with
          | 0, hj => simp at hj; subst hj; simp [Addr.add]
        case a2 => intro u hu; simp at hu; subst hu; rfl
        case a3 => unfold maxLen; omega
        case a4 => omega
        case a5 => simp; omega
        intro v' w3 hown3 hgrow3 _
        have hb3 : Below w.heap.size w w3 := (hb.alloc hz _).grown hgrow3 (by simp; omega) (own_geX hown)
        have hown4 := byte_own (c := 10) hown3
        clear hown3 hgrow3 hown hb
        generalize l ++ [(10 : UInt8)] = L at hown4 HE
        obtain ⟨a4, c4, hv4⟩ := own_shape hown4
        rw [hv4] at hown4 ⊢
        have HO4 := hid hown4
        clear hown4 hv4
        rw [HE.out] at htk
        have HT := hid htk
        clear htk
        by_cases hov : 4194304 < L.length
        · have dv : decide ((4194304 : Int) < (L.length : Int)) = true := decide_eq_true (by omega)
          go_wp2
          go_ret2
          exact ⟨_, _, rfl, fun _ => ⟨rfl, rfl⟩, fun h => absurd (Nat.lt_of_lt_of_le hov HT.out) (by omega), hb3⟩
        · have dv : decide ((4194304 : Int) < (L.length : Int)) = false := decide_eq_false (by omega)
          go_wp2
          go_roundw
          case rel => exact ⟨k + 1, by omega, by go_num, by rw [HE.out]; rfl, by rw [HE.out]; exact Nat.le_of_not_lt hov, by rw [HE.out]; exact HO4.out, hb3⟩
          case measure => simp [intOf]; omega
      · by_cases h9 : s[k] = 9
        · have he10 : ((s[k].toNat : Int) == 10) = false := by rw [beq_eq_false_iff_ne]; exact fun e => h10 ((ten_iff _).1 e)
          have he9 : ((s[k].toNat : Int) == 9) = true := by rw [h9]; rfl
          have HE : Hid (Pl.ex wd (s.data.toList.take (k + 1)) = (l ++ List.replicate (wd - col % wd) 32, col + (wd - col % wd))) := hid (by rw [hst.out, h9]; rfl)
          have hq0 : col % wd < wd := Nat.mod_lt _ (by omega)
          have hstop := fun j h h' => mod_stop col wd j h1 h h'
          clear hst h10 h9
          obtain ⟨q, hqe⟩ : ∃ q, q = wd - col % wd := ⟨_, rfl⟩
          have hq1 : 1 ≤ q := by omega
          have hq2 : q ≤ 255 := by omega
          rw [← hqe] at HE hstop
          have HS := hid hstop
          clear hstop hqe hq0
          go_wp2_with (at_builtin; refine wpList_append_own _ rfl _ _ 33 rfl w.heap.size 5 i0 (.int .u8 0) 1 1 Tryd.underlying33 hi hz0 hz1 hz2 rfl (by decide) _ _ _ rfl (hown.alloc _) ⟨wr.heap.size, 0, none⟩ 1 1 [.int .u8 32] rfl rfl ?b1 ?b2 ?b3 ?b4 ?b5 ?_)
          case b1 =>
            intro j u hj
            match j, hj with
            | 0, hj => simp at hj; subst hj; simp [Addr.add]
          case b2 => intro u hu; simp at hu; subst hu; rfl
          case b3 => unfold maxLen; omega
          case b4 => omega
          case b5 => simp; omega
          intro v' w3 hown3 hgrow3 _
          have hb3 : Below w.heap.size w w3 := (hb.alloc hz _).grown hgrow3 (by simp; omega) (own_geX hown)
          have hown4 := byte_own (c := 32) hown3
          have HO4 := hid hown4
          clear hown3 hgrow3 hown hb hown4
          go_wp2
          go_loopw [6, 7] (fun v c wr => ∃ j : Nat, 1 ≤ j ∧ j ≤ q ∧ c = .int .i64 (col + j : Nat) ∧ wr.ownsRow w.heap.size 5 1 v (l ++ List.replicate j 32).length (Lib.byteCells (l ++ List.replicate j 32)) ∧ Below w.heap.size w wr) (fun _ c _ => col + q - (intOf c).toNat)
          case atStart => exact ⟨1, Nat.le_refl _, hq1, by go_num, HO4.out, hb3⟩
          case round =>
            obtain ⟨j, hj1, hj2, rfl, hown5, hb5⟩ := hrel
            clear HO4 hb3
            have hz5 := hb5.size
            have hjj := HS.out j hj1 hj2
            by_cases hjq : j = q
            · subst hjq
              have hm : (((col : Int) + (j : Int)) % (wd : Int) != 0) = false := by
                have e0 : ((col : Int) + (j : Int)) % (wd : Int) = (((col + j) % wd : Nat) : Int) := by simp
                rw [e0, hjj.2 rfl]; rfl
              have hown4 := hown5
              have hb3 := hb5
              clear hown5 hb5 hjj HS
              generalize l ++ List.replicate j (32 : UInt8) = L at hown4 HE
              obtain ⟨a4, c4, hv4⟩ := own_shape hown4
              subst hv4
              have HO4 := hid hown4
              clear hown4
              rw [HE.out] at htk
              have HT := hid htk
              clear htk
              by_cases hov : 4194304 < L.length
              · have dv : decide ((4194304 : Int) < (L.length : Int)) = true := decide_eq_true (by omega)
                go_wp2
                go_ret2
                exact ⟨_, _, rfl, fun _ => ⟨rfl, rfl⟩, fun h => absurd (Nat.lt_of_lt_of_le hov HT.out) (by omega), hb3⟩
              · have dv : decide ((4194304 : Int) < (L.length : Int)) = false := decide_eq_false (by omega)
                go_wp2
                go_roundw
                case rel => exact ⟨k + 1, by omega, by go_num, by rw [HE.out], by rw [HE.out]; exact Nat.le_of_not_lt hov, by rw [HE.out]; exact HO4.out, hb3⟩
                case measure => simp [intOf]; omega
            · have hm : (((col : Int) + (j : Int)) % (wd : Int) != 0) = true := by
                have e0 : ((col : Int) + (j : Int)) % (wd : Int) = (((col + j) % wd : Nat) : Int) := by simp
                rw [e0, bne_iff_ne]
                intro e
                exact hjq (hjj.1 (by omega))
              have hll : (l ++ List.replicate j (32 : UInt8)).length ≤ l.length + j := by simp
              obtain ⟨L, hL⟩ : ∃ L, L = l ++ List.replicate j (32 : UInt8) := ⟨_, rfl⟩
              rw [← hL] at hown5 hll
              have HL := hid hL
              clear hL hjj
              go_wp2_with (at_builtin; refine wpList_append_own _ rfl _ _ 33 rfl w.heap.size 5 i0 (.int .u8 0) 1 1 Tryd.underlying33 hi hz0 hz1 hz2 rfl (by decide) _ _ _ rfl (hown5.alloc _) ⟨wr.heap.size, 0, none⟩ 1 1 [.int .u8 32] rfl rfl ?d1 ?d2 ?d3 ?d4 ?d5 ?_)
              case d1 =>
                intro j u hj
                match j, hj with
                | 0, hj => simp at hj; subst hj; simp [Addr.add]
              case d2 => intro u hu; simp at hu; subst hu; rfl
              case d3 => unfold maxLen; omega
              case d4 => omega
              case d5 => simp; omega
              intro v' w4 hown6 hgrow6 _
              have hb6 : Below w.heap.size w w4 := (hb5.alloc hz5 _).grown hgrow6 (by simp; omega) (own_geX hown5)
              have hown7 := byte_own (c := 32) hown6
              rw [HL.out, List.append_assoc, ← List.replicate_succ'] at hown7
              have HO7 := hid hown7
              clear hown6 hgrow6 hown5 hb5 hown7
              go_wp2
              go_roundw
              case rel => exact ⟨j + 1, by omega, by omega, by go_num, HO7.out, hb6⟩
              case measure => simp [intOf]; omega
        · have he10 : ((s[k].toNat : Int) == 10) = false := by rw [beq_eq_false_iff_ne]; exact fun e => h10 ((ten_iff _).1 e)
          have he9 : ((s[k].toNat : Int) == 9) = false := by rw [show (9 : Int) = ((9 : Nat) : Int) from rfl, byte_num s[k] 9 (by omega)]; exact decide_eq_false h9
          have HE : Hid (Pl.ex wd (s.data.toList.take (k + 1)) = (l ++ [s[k]], col + 1)) := hid (by rw [hst.out, Pl.step_else wd (l, col) s[k] h10 h9])
          clear hst h10 h9
          go_wp2_with (at_builtin; refine wpList_append_own _ rfl _ _ 33 rfl w.heap.size 5 i0 (.int .u8 0) 1 1 Tryd.underlying33 hi hz0 hz1 hz2 rfl (by decide) _ _ _ rfl (hown.alloc _) ⟨wr.heap.size, 0, none⟩ 1 1 [.int .u8 s[k].toNat] rfl rfl ?f1 ?f2 ?f3 ?f4 ?f5 ?_)
          case f1 =>
            intro j u hj
            match j, hj with
            | 0, hj => simp at hj; subst hj; simp [Addr.add]
          case f2 => intro u hu; simp at hu; subst hu; rfl
          case f3 => unfold maxLen; omega
          case f4 => omega
          case f5 => simp; omega
          intro v' w3 hown3 hgrow3 _
          have hb3 : Below w.heap.size w w3 := (hb.alloc hz _).grown hgrow3 (by simp; omega) (own_geX hown)
          have hown4 := byte_own (c := s[k]) hown3
          clear hown3 hgrow3 hown hb
          generalize l ++ [s[k]] = L at hown4 HE
          obtain ⟨a4, c4, hv4⟩ := own_shape hown4
          rw [hv4] at hown4 ⊢
          have HO4 := hid hown4
          clear hown4 hv4
          rw [HE.out] at htk
          have HT := hid htk
          clear htk
          by_cases hov : 4194304 < L.length
          · have dv : decide ((4194304 : Int) < (L.length : Int)) = true := decide_eq_true (by omega)
            go_wp2
            go_ret2
            exact ⟨_, _, rfl, fun _ => ⟨rfl, rfl⟩, fun h => absurd (Nat.lt_of_lt_of_le hov HT.out) (by omega), hb3⟩
          · have dv : decide ((4194304 : Int) < (L.length : Int)) = false := decide_eq_false (by omega)
            go_wp2
            go_roundw
            case rel => exact ⟨k + 1, by omega, by go_num, by rw [HE.out]; go_num, by rw [HE.out]; exact Nat.le_of_not_lt hov, by rw [HE.out]; exact HO4.out, hb3⟩
            case measure => simp [intOf]; omega
    · have hall : s.data.toList.take k = s.data.toList := List.take_of_length_le (by rw [size_data]; omega)
      rw [hall] at hown hlen
      have HL := hid hlen
      have hcv := conv_ownX hown
      clear hall hlen hown
      go_wp2
      go_ret2
      exact ⟨_, _, rfl, fun h => absurd HL.out (by omega), fun _ => ⟨rfl, rfl⟩, hb⟩
end Go.Proofs.YtghdlfpjbmohbabDoor
