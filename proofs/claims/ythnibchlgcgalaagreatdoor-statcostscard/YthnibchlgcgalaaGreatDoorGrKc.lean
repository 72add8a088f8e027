/-
  Several texts in one: Kc, Kd.
-/
import Derived.Test.YthnibchlgcgalaaGreatDoorKb
/-
  The document's partial.
-/
namespace Go.Proofs.YthnibchlgcgalaaGreatDoor
open Go.RowKit
open Hu (Rw Hk)

theorem part_at {l : List Rw} {k : Nat} {z : Rw} (h : l[k]? = some z) (o : Rw → Bool) : Hu.part o (l.drop k) = ((!Hu.whT z.t && o z) || Hu.part o (l.drop (k + 1))) := by
  obtain ⟨hk, rfl⟩ := List.getElem?_eq_some_iff.1 h
  rw [List.drop_eq_getElem_cons hk]
  unfold Hu.part
  rw [List.any_cons]
theorem part_end {l : List Rw} {k : Nat} (h : l.length ≤ k) (o : Rw → Bool) (e : Bool) : (e || Hu.part o (l.drop k)) = e := by
  rw [List.drop_of_length_le h]
  unfold Hu.part
  simp
theorem or_step {p e a b c : Bool} (h : p = (e || a)) (h2 : a = (b || c)) : p = (e || (b || c)) := by rw [h, h2]
end Go.Proofs.YthnibchlgcgalaaGreatDoor
/-
  The document's Valid (made by wip/genkd.py).
-/
namespace Go.Proofs.YthnibchlgcgalaaGreatDoor
open Go.RowKit
open Hu (Rw Hk)

theorem byte_hit {s : ByteArray} {j : Nat} (hj : j < s.size) (hq : ((s[j].toNat : Int) == 10) = true) : (10 : UInt8) ∈ s.data.toList := by
  have h0 : s[j].toNat = 10 := by have := beq_iff_eq.1 hq; omega
  have h1 : s[j] = 10 := UInt8.toNat_inj.1 h0
  rw [← h1]
  exact Array.mem_toList_iff.2 (Array.getElem_mem hj)
theorem headOk_no {s : ByteArray} (h : ¬ (s.size : Int) ≤ 4096) : Hu.headOk s = false := by unfold Hu.headOk; rw [decide_eq_false (by omega)]; rfl
theorem headOk_hit {s : ByteArray} (h : (10 : UInt8) ∈ s.data.toList) : Hu.headOk s = false := by
  unfold Hu.headOk
  rw [List.contains_iff_mem.2 h]
  simp
theorem headOk_yes {s : ByteArray} (h : (s.size : Int) ≤ 4096) (h2 : (10 : UInt8) ∉ s.data.toList.take s.size) : Hu.headOk s = true := by
  rw [List.take_of_length_le (by rw [Array.length_toList]; exact Nat.le_refl _)] at h2
  unfold Hu.headOk
  rw [decide_eq_true (by omega), List.contains_eq_mem, decide_eq_false h2]
  rfl
set_option maxHeartbeats 8000000 in
set_option maxRecDepth 100000 in
theorem rValid_any {w : World} {h : Hk} {v : Value} (hv : RdW w v h.rows) (hz : SzH h) :
    Calls Tryz.prog 12 #[HkV h v] w fun e w' => e = .returned (.int .i64 (vldN h : Nat)) ∧ Below w.heap.size w w' := by
  obtain ⟨hl, hs, hh⟩ := hz
  have HCT := hid (fun w1 (hb : Below w.heap.size w w1) => rCounts_any (hv.below hb) hl)
  have HRW := hid (fun w1 (hb : Below w.heap.size w w1) => rRows_any (hv.below hb) hl hs)
  have hol : (Hu.olds h.rows).length < 8796093022200 := by have := Hu.olds_len h.rows; omega
  have hfl : (Hu.fres h.rows).length < 8796093022200 := by have := Hu.fres_len h.rows; omega
  have HS1 := hid (fun w1 => rStart_any h.a _ w1 hol)
  have HS2 := hid (fun w1 => rStart_any h.b _ w1 hfl)
  obtain ⟨N, hN⟩ : ∃ N, N = vldN h := ⟨_, rfl⟩
  rw [← hN]
  have HE : Hid (N = if (Hu.rowsD h.rows false false false && (h.n == ((Hu.olds h.rows).length : Int) && (h.m == ((Hu.fres h.rows).length : Int) && (Hu.startD h.a (Hu.olds h.rows).length && (Hu.startD h.b (Hu.fres h.rows).length && Hu.headOk h.head))))) = true then 0 else 100) := hid (by rw [hN]; unfold vldN; rw [← Hu.vld_eq]; rfl)
  clear hN
  have HV := hid hv
  obtain ⟨av, cv, rfl⟩ := hv.shape
  obtain ⟨ha, hn', hb', hm', hh', l⟩ := h
  dsimp only at HV hl HCT HRW hol hfl HS1 HS2 hh HE ⊢
  unfold HkV
  dsimp only
  obtain ⟨n, hn⟩ : ∃ n, n = l.length := ⟨_, rfl⟩
  rw [← hn] at HV HCT HRW hl ⊢
  unfold maxLen at hh
  generalize Hu.rowsD l false false false = q1 at HRW HE
  generalize Hu.startD ha (Hu.olds l).length = q4 at HS1 HE
  generalize Hu.startD hb' (Hu.fres l).length = q5 at HS2 HE
  obtain ⟨q6, hq6⟩ : ∃ q6, q6 = Hu.headOk hh' := ⟨_, rfl⟩
  have HQ6 := hid hq6
  rw [← hq6] at HE
  generalize (Hu.olds l).length = x at HCT HS1 hol HE ⊢
  generalize (Hu.fres l).length = y at HCT HS2 hfl HE ⊢
  generalize h2 : (hn' == (x : Int)) = q2 at HE
  generalize h3 : (hm' == (y : Int)) = q3 at HE
  clear hv hn hs hq6
  have HB0 := hid ((Below.refl w.heap.size w).alloc (Nat.le_refl _) (.cells #[.int .i64 ha, .int .i64 hn', .int .i64 hb', .int .i64 hm', .string hh', .slice av n cv] 48))
  have HK0 := hid (heap_alloc_new w (.cells #[.int .i64 ha, .int .i64 hn', .int .i64 hb', .int .i64 hm', .string hh', .slice av n cv] 48))
  go_enter Tryz.func12, Tryz.ntmps12
  go_wp2_with fail
  generalize w.alloc (.cells #[.int .i64 ha, .int .i64 hn', .int .i64 hb', .int .i64 hm', .string hh', .slice av n cv] 48) = w0 at HB0 HK0 ⊢
  refine (HCT.out w0 HB0.out).mono ?_
  rintro e w1 ⟨rfl, hb1⟩
  have HB1 := hid (HB0.out.trans (hb1.mono HB0.out.size))
  have HK1 := hid ((hb1.block w.heap.size (lt_of_heap HK0.out)).trans HK0.out)
  have c5 : w1.cell? ⟨w.heap.size, 5, none⟩ = some (.slice av n cv) := cell_of_blk HK1.out 5
  clear hb1 HB0 HK0
  go_wp2_with fail
  refine (HRW.out w1 HB1.out).mono ?_
  rintro e w2 ⟨rfl, hb2⟩
  have HB2 : Hid (Below w.heap.size w w2) := hid (HB1.out.trans (hb2.mono HB1.out.size))
  have HK2 := hid ((hb2.block w.heap.size (lt_of_heap HK1.out)).trans HK1.out)
  have d0 : w2.cell? ⟨w.heap.size, 0, none⟩ = some (.int .i64 ha) := cell_of_blk HK2.out 0
  have d1 : w2.cell? ⟨w.heap.size, 1, none⟩ = some (.int .i64 hn') := cell_of_blk HK2.out 1
  have d2 : w2.cell? ⟨w.heap.size, 2, none⟩ = some (.int .i64 hb') := cell_of_blk HK2.out 2
  have d3 : w2.cell? ⟨w.heap.size, 3, none⟩ = some (.int .i64 hm') := cell_of_blk HK2.out 3
  have d4 : w2.cell? ⟨w.heap.size, 4, none⟩ = some (.string hh') := cell_of_blk HK2.out 4
  clear hb2 HB1 HK1 c5 HV HCT HRW
  cases q1 with
  | false =>
    go_wp2_with fail
    go_loopw [5, 6] (fun o ii wr => ∃ j : Nat, j ≤ hh'.size ∧ ii = .int .i64 j ∧ o = .bool false ∧ wr = w2) (fun _ ii _ => hh'.size - (intOf ii).toNat)
    case atStart => exact ⟨0, Nat.zero_le _, rfl, by first | rfl | rw [decide_eq_false (by omega)], rfl⟩
    case round =>
      obtain ⟨j, hj, rfl, rfl, hw⟩ := hrel
      subst hw
      by_cases hjl : j < hh'.size
      · go_wp2_with fail
        go_roundw
        case rel => exact ⟨j + 1, by omega, by go_num, rfl, by trivial⟩
        case measure => simp [intOf]; omega
      · obtain rfl : j = hh'.size := by omega
        go_wp2_with fail
        go_ret
        exact ⟨by rw [HE.out]; rfl, HB2.out⟩
  | true =>
    cases q2 with
    | false =>
      go_wp2_with fail
      go_loopw [5, 6] (fun o ii wr => ∃ j : Nat, j ≤ hh'.size ∧ ii = .int .i64 j ∧ o = .bool false ∧ wr = w2) (fun _ ii _ => hh'.size - (intOf ii).toNat)
      case atStart => exact ⟨0, Nat.zero_le _, rfl, by first | rfl | rw [decide_eq_false (by omega)], rfl⟩
      case round =>
        obtain ⟨j, hj, rfl, rfl, hw⟩ := hrel
        subst hw
        by_cases hjl : j < hh'.size
        · go_wp2_with fail
          go_roundw
          case rel => exact ⟨j + 1, by omega, by go_num, rfl, by trivial⟩
          case measure => simp [intOf]; omega
        · obtain rfl : j = hh'.size := by omega
          go_wp2_with fail
          go_ret
          exact ⟨by rw [HE.out]; rfl, HB2.out⟩
    | true =>
      cases q3 with
      | false =>
        go_wp2_with fail
        go_loopw [5, 6] (fun o ii wr => ∃ j : Nat, j ≤ hh'.size ∧ ii = .int .i64 j ∧ o = .bool false ∧ wr = w2) (fun _ ii _ => hh'.size - (intOf ii).toNat)
        case atStart => exact ⟨0, Nat.zero_le _, rfl, by first | rfl | rw [decide_eq_false (by omega)], rfl⟩
        case round =>
          obtain ⟨j, hj, rfl, rfl, hw⟩ := hrel
          subst hw
          by_cases hjl : j < hh'.size
          · go_wp2_with fail
            go_roundw
            case rel => exact ⟨j + 1, by omega, by go_num, rfl, by trivial⟩
            case measure => simp [intOf]; omega
          · obtain rfl : j = hh'.size := by omega
            go_wp2_with fail
            go_ret
            exact ⟨by rw [HE.out]; rfl, HB2.out⟩
      | true =>
        go_wp2_with fail
        refine (HS1.out _).mono ?_
        rintro e w3 ⟨rfl, h9⟩
        rw [h9]
        clear h9 w3
        cases q4 with
        | false =>
          go_wp2_with fail
          go_loopw [5, 6] (fun o ii wr => ∃ j : Nat, j ≤ hh'.size ∧ ii = .int .i64 j ∧ o = .bool false ∧ wr = w2) (fun _ ii _ => hh'.size - (intOf ii).toNat)
          case atStart => exact ⟨0, Nat.zero_le _, rfl, by first | rfl | rw [decide_eq_false (by omega)], rfl⟩
          case round =>
            obtain ⟨j, hj, rfl, rfl, hw⟩ := hrel
            subst hw
            by_cases hjl : j < hh'.size
            · go_wp2_with fail
              go_roundw
              case rel => exact ⟨j + 1, by omega, by go_num, rfl, by trivial⟩
              case measure => simp [intOf]; omega
            · obtain rfl : j = hh'.size := by omega
              go_wp2_with fail
              go_ret
              exact ⟨by rw [HE.out]; rfl, HB2.out⟩
        | true =>
          go_wp2_with fail
          refine (HS2.out _).mono ?_
          rintro e w3 ⟨rfl, h9⟩
          rw [h9]
          clear h9 w3
          cases q5 with
          | false =>
            go_wp2_with fail
            go_loopw [5, 6] (fun o ii wr => ∃ j : Nat, j ≤ hh'.size ∧ ii = .int .i64 j ∧ o = .bool false ∧ wr = w2) (fun _ ii _ => hh'.size - (intOf ii).toNat)
            case atStart => exact ⟨0, Nat.zero_le _, rfl, by first | rfl | rw [decide_eq_false (by omega)], rfl⟩
            case round =>
              obtain ⟨j, hj, rfl, rfl, hw⟩ := hrel
              subst hw
              by_cases hjl : j < hh'.size
              · go_wp2_with fail
                go_roundw
                case rel => exact ⟨j + 1, by omega, by go_num, rfl, by trivial⟩
                case measure => simp [intOf]; omega
              · obtain rfl : j = hh'.size := by omega
                go_wp2_with fail
                go_ret
                exact ⟨by rw [HE.out]; rfl, HB2.out⟩
          | true =>
            by_cases h6 : (hh'.size : Int) ≤ 4096
            · go_wp2_with fail
              go_loopw [5, 6] (fun o ii wr => ∃ (j : Nat) (ok : Bool), j ≤ hh'.size ∧ ii = .int .i64 j ∧ o = .bool ok ∧ Hid ((ok = true ∧ (10 : UInt8) ∉ hh'.data.toList.take j) ∨ (ok = false ∧ (10 : UInt8) ∈ hh'.data.toList)) ∧ wr = w2) (fun _ ii _ => hh'.size - (intOf ii).toNat)
              case atStart => exact ⟨0, true, Nat.zero_le _, rfl, rfl, hid (.inl ⟨rfl, by simp⟩), rfl⟩
              case round =>
                obtain ⟨j, ok, hj, rfl, rfl, HOK, hw⟩ := hrel
                subst hw
                by_cases hjl : j < hh'.size
                · cases ok
                  · go_wp2_with fail
                    go_roundw
                    case rel => exact ⟨j + 1, false, by omega, by go_num, rfl, hid (HOK.out.elim (fun h => absurd h.1 (by decide)) .inr), by trivial⟩
                    case measure => simp [intOf]; omega
                  · have HNO : Hid ((10 : UInt8) ∉ hh'.data.toList.take j) := hid (HOK.out.elim (fun h => h.2) (fun h => absurd h.1 (by decide)))
                    clear HOK
                    cases hq : ((hh'[j].toNat : Int) == 10) with
                    | true =>
                      have HH := hid (byte_hit hjl hq)
                      go_wp2_with fail
                      go_roundw
                      case rel => exact ⟨j + 1, false, by omega, by go_num, by first | rfl | (show Value.bool (_ != 10) = _; rw [bne, hq]; rfl), hid (.inr ⟨rfl, HH.out⟩), by trivial⟩
                      case measure => simp [intOf]; omega
                    | false =>
                      have HM := hid (Cx.take_miss hh' j hjl hq HNO.out)
                      go_wp2_with fail
                      go_roundw
                      case rel => exact ⟨j + 1, true, by omega, by go_num, by first | rfl | (show Value.bool (_ != 10) = _; rw [bne, hq]; rfl), hid (.inl ⟨rfl, HM.out⟩), by trivial⟩
                      case measure => simp [intOf]; omega
                · obtain rfl : j = hh'.size := by omega
                  cases ok
                  · have HZ : Hid (q6 = false) := hid (HQ6.out.trans (HOK.out.elim (fun h => absurd h.1 (by decide)) (fun h => headOk_hit h.2)))
                    go_wp2_with fail
                    go_ret
                    exact ⟨by rw [HE.out, HZ.out]; rfl, HB2.out⟩
                  · have HZ : Hid (q6 = true) := hid (HQ6.out.trans (HOK.out.elim (fun h => headOk_yes h6 h.2) (fun h => absurd h.1 (by decide))))
                    go_wp2_with fail
                    go_ret
                    exact ⟨by rw [HE.out, HZ.out]; rfl, HB2.out⟩
            · have HZ : Hid (q6 = false) := hid (HQ6.out.trans (headOk_no h6))
              go_wp2_with fail
              go_loopw [5, 6] (fun o ii wr => ∃ j : Nat, j ≤ hh'.size ∧ ii = .int .i64 j ∧ o = .bool false ∧ wr = w2) (fun _ ii _ => hh'.size - (intOf ii).toNat)
              case atStart => exact ⟨0, Nat.zero_le _, rfl, by first | rfl | rw [decide_eq_false (by omega)], rfl⟩
              case round =>
                obtain ⟨j, hj, rfl, rfl, hw⟩ := hrel
                subst hw
                by_cases hjl : j < hh'.size
                · go_wp2_with fail
                  go_roundw
                  case rel => exact ⟨j + 1, by omega, by go_num, rfl, by trivial⟩
                  case measure => simp [intOf]; omega
                · obtain rfl : j = hh'.size := by omega
                  go_wp2_with fail
                  go_ret
                  exact ⟨by rw [HE.out, HZ.out]; rfl, HB2.out⟩
end Go.Proofs.YthnibchlgcgalaaGreatDoor
