/-
  The iterator of the places: its contract.
-/
import Derived.Test.YtagjjhlegojpbaaYa
import Derived.Test.YtagjjhlegojpbaaYb
namespace Go.Proofs.Ytagjjhlegojpbaa
open Go.RowKit Go.Shelf
open Ed (Ch Pr)
attribute [local go_sem] Oper.semAt_some

theorem dsize (x : ByteArray) : x.data.toList.length = x.size := by rw [Array.length_toList]; rfl
theorem get_data {s : ByteArray} {k : Nat} (h : k < s.size) : s.data.toList[k]? = some s[k] := by
  rw [List.getElem?_eq_getElem (by rw [dsize]; exact h)]
  rfl
def uV (c : Ch) : Value := .agg #[.int .i64 c.a, .int .i64 c.n, .int .i64 c.b, .int .i64 c.m]
def zU : Ch := ⟨0, 0, 0, 0⟩
def uEnc (l : List Ch) (k : Nat) : Array Value := #[uV (l.getD k zU)]
/-- the places of two texts -/
def plc (x y : ByteArray) : List Ch := Scn.pl x.data.toList y.data.toList 0 1
theorem plc_len (x y : ByteArray) : (plc x y).length ≤ x.size := by
  have := Scn.pl_len x.data.toList y.data.toList 0 1
  rw [dsize] at this
  exact this
def strO (x : ByteArray) : Obj := .cells #[.string x] 9
theorem drop_atY {α : Type} {l : List α} {k : Nat} {x : α} (h : l[k]? = some x) : l.drop k = x :: l.drop (k + 1) := by
  obtain ⟨hk, rfl⟩ := List.getElem?_eq_some_iff.1 h
  exact List.drop_eq_getElem_cons hk

set_option maxHeartbeats 1000000 in
theorem places_any (x y : ByteArray) (w : World) : Calls Try.prog 21 #[.string x, .string y] w fun e w' => e = .returned (.func (.func 22) #[] #[.pointer (some ⟨w.heap.size, 0, none⟩), .pointer (some ⟨w.heap.size + 1, 0, none⟩)]) ∧ w' = (w.alloc (strO x)).alloc (strO y) := by
  go_enter Try.func21, Try.ntmps21
  go_wp2
  go_ret
  exact ⟨by simp, rfl⟩

theorem get_of_drop {l r : List Ch} {c : Nat} {u : Ch} (h : l.drop c = u :: r) : c < l.length ∧ l.getD c zU = u := by
  have h0 : c < l.length := by
    rcases Nat.lt_or_ge c l.length with k | k
    · exact k
    · rw [List.drop_of_length_le k] at h; cases h
  rw [List.drop_eq_getElem_cons h0] at h
  refine ⟨h0, ?_⟩
  rw [List.getD_eq_getElem?_getD, List.getElem?_eq_getElem h0]
  exact (List.cons.inj h).1
theorem drop_of_drop {l r : List Ch} {c : Nat} {u : Ch} (h : l.drop c = u :: r) : l.drop (c + 1) = r := by
  rw [← List.drop_drop, h]; rfl
theorem nl_yes {x : UInt8} {l : Nat} (h : x.toNat = 10) : Scn.nl x l = l + 1 := by
  unfold Scn.nl
  rw [if_pos (UInt8.toNat_inj.1 (by rw [h]; rfl))]
theorem nl_no {x : UInt8} {l : Nat} (h : ¬ x.toNat = 10) : Scn.nl x l = l := by
  unfold Scn.nl
  rw [if_neg (fun e => h (by rw [e]; rfl))]

set_option maxHeartbeats 4000000 in
set_option maxRecDepth 100000 in
theorem places_in (n L A B : Nat) (x y : ByteArray) (hx : x.size ≤ 1099511627776) (hy : y.size ≤ 1099511627776) (J JX : Nat → World → Prop) (hJ : ∀ k W, J k W → W.heap[A]? = some (strO x) ∧ W.heap[B]? = some (strO y)) (low : ∀ k W W', J k W → Below W.heap.size W W' → J k W')
    (hY : ∀ k W, J k W → k < (plc x y).length → YieldAt Fence.wide (n - 1) Try.prog L (uEnc (plc x y) k) W fun e W' => (e = .returned (.bool true) ∧ J (k + 1) W') ∨ (e = .returned (.bool false) ∧ JX (k + 1) W')) (W : World) (h0 : J 0 W) :
    CallsIn Fence.wide n Try.prog 22 #[.func (.yield L) #[] #[], .pointer (some ⟨A, 0, none⟩), .pointer (some ⟨B, 0, none⟩)] W fun e W' => (∃ v, e = .returned v) ∧ (J (plc x y).length W' ∨ ∃ k, JX k W') := by
  have HJ := hid hJ
  have HLOW := hid low
  have HY := hid hY
  have HI0 := hid h0
  obtain ⟨ha, hb⟩ := hJ 0 W h0
  have c1 : W.cell? ⟨A, 0, none⟩ = some (.string x) := cell_of_blk ha 0
  have c2 : W.cell? ⟨B, 0, none⟩ = some (.string y) := cell_of_blk hb 0
  clear hJ low hY h0 ha hb
  refine callsIn_of_wp Try.func22 rfl trivial ?_ rfl
  simp only [Try.ntmps22, List.size_toArray, List.length_cons, List.length_nil, Nat.reduceAdd, Nat.reduceSub, Array.replicate_succ, Array.replicate_zero, List.push_toArray, List.append_toArray, List.nil_append, List.cons_append]
  rcases Nat.lt_or_ge y.size x.size with h | h
  · obtain ⟨N, hN⟩ : ∃ N, N = y.size := ⟨_, rfl⟩
    have hA : N ≤ x.size := by omega
    have hB : N ≤ y.size := by omega
    have HNE : Hid (N = x.size ∨ N = y.size) := hid (by omega)
    gi_wp2
    rw [← hN]
    clear hN h
    gi_loopw [4, 11] (fun ln i wr => ∃ (k c l : Nat), k ≤ N ∧ i = .int .i64 k ∧ ln = .int .i64 l ∧ l ≤ k + 1 ∧ Hid ((plc x y).drop c = Scn.pl (x.data.toList.drop k) (y.data.toList.drop k) k l ∧ c ≤ (plc x y).length) ∧ Hid (J c wr)) (fun _ i _ => N - (intOf i).toNat)
    case atStart => exact ⟨0, 0, 1, Nat.zero_le _, rfl, rfl, by omega, hid ⟨rfl, Nat.zero_le _⟩, HI0⟩
    case round =>
      obtain ⟨k, c, l, hk, rfl, rfl, hl, HD, HI⟩ := hrel
      clear HI0 c1 c2
      by_cases hlt : k < N
      · have HX := hid (get_data (show k < x.size by omega))
        have HYY := hid (get_data (show k < y.size by omega))
        have HDR := hid (drop_atY HX.out)
        have HDS := hid (drop_atY HYY.out)
        have hkx : k < x.size := by omega
        have hky : k < y.size := by omega
        have bx : x[k].toNat < 256 := x[k].toNat_lt
        have by1 : y[k].toNat < 256 := y[k].toNat_lt
        have c1 : wr.cell? ⟨A, 0, none⟩ = some (.string x) := cell_of_blk (HJ.out c wr HI.out).1 0
        have c2 : wr.cell? ⟨B, 0, none⟩ = some (.string y) := cell_of_blk (HJ.out c wr HI.out).2 0
        have HI2 := hid (HLOW.out c wr _ HI.out (below_drewN (Below.refl _ _) 1))
        gi_upto_region 4 with fail
        by_cases hq : x[k] = y[k]
        · have q1 : (((x[k].toNat : Nat) : Int) != ((y[k].toNat : Nat) : Int)) = false := by rw [hq]; simp
          have HD2 : Hid ((plc x y).drop c = Scn.pl (x.data.toList.drop (k + 1)) (y.data.toList.drop (k + 1)) (k + 1) (Scn.nl x[k] l) ∧ c ≤ (plc x y).length) := hid ⟨by rw [HD.out.1, HDR.out, HDS.out, Scn.pl_same hq], HD.out.2⟩
          clear hq HD
          refine wpIn_region_qtail 21 (by kernel_rfl) (by kernel_rfl) ?_
          simp only [List.take_succ_cons, List.take_zero, List.drop_succ_cons, List.drop_zero]
          repeat go_big_quiet_step (fail)
          refine wpQuiet_nil ?_
          generalize wr.drewN 1 = w2 at HI2 ⊢
          clear c1 c2 HI
          have c1 : w2.cell? ⟨A, 0, none⟩ = some (.string x) := cell_of_blk (HJ.out c w2 HI2.out).1 0
          by_cases h10 : x[k].toNat = 10
          · have q2 : (((x[k].toNat : Nat) : Int) == 10) = true := ieq (by omega)
            rw [nl_yes h10] at HD2
            clear h10
            gi_wp2
            repeat (refine ⟨fun _ h => (by cases h), ?_⟩; gi_wp2)
            go_roundw
            case rel => exact ⟨k + 1, c, l + 1, by omega, by go_num, by go_num, by omega, HD2, HI2⟩
            case measure => simp [intOf]; omega
          · have q2 : (((x[k].toNat : Nat) : Int) == 10) = false := ine (by omega)
            rw [nl_no h10] at HD2
            clear h10
            gi_wp2
            repeat (refine ⟨fun _ h => (by cases h), ?_⟩; gi_wp2)
            go_roundw
            case rel => exact ⟨k + 1, c, l, by omega, by go_num, by first | rfl | go_num, by omega, HD2, HI2⟩
            case measure => simp [intOf]; omega
        · have q1 : (((x[k].toNat : Nat) : Int) != ((y[k].toNat : Nat) : Int)) = true := by
            rw [bne_iff_ne]
            intro e
            exact hq (UInt8.toNat_inj.1 (by omega))
          have HD1 : Hid ((plc x y).drop c = ⟨(k : Int) + 1, (l : Int), (x[k].toNat : Int), (y[k].toNat : Int)⟩ :: Scn.pl (x.data.toList.drop (k + 1)) (y.data.toList.drop (k + 1)) (k + 1) (Scn.nl x[k] l)) := hid (by rw [HD.out.1, HDR.out, HDS.out, Scn.pl_diff hq])
          clear hq HD
          have HG := hid (get_of_drop HD1.out)
          have HD2 : Hid ((plc x y).drop (c + 1) = Scn.pl (x.data.toList.drop (k + 1)) (y.data.toList.drop (k + 1)) (k + 1) (Scn.nl x[k] l) ∧ c + 1 ≤ (plc x y).length) := hid ⟨drop_of_drop HD1.out, HG.out.1⟩
          have i3 : IntKind.i64.wrap ((k : Int) + 1) = (k : Int) + 1 := by rw [IntKind.wrap_i64]; omega
          refine wpIn_region_qtail 21 (by kernel_rfl) (by kernel_rfl) ?_
          simp only [List.take_succ_cons, List.take_zero, List.drop_succ_cons, List.drop_zero]
          repeat go_big_quiet_step (fail)
          refine wpQuiet_nil ?_
          generalize wr.drewN 1 = w2 at HI2 ⊢
          clear c1 c2 HI
          obtain ⟨fn, tmps, assign, body, hy2, hR⟩ := HY.out c w2 HI2.out HG.out.1
          unfold uEnc at hy2
          rw [HG.out.2] at hy2
          dsimp only [uV] at hy2
          gi_wp2
          refine ⟨fun h => by simp [Fence.wide] at h, ?_⟩
          refine hR.mono ?_
          rintro e w3 (⟨rfl, hJ3⟩ | ⟨rfl, hX3⟩)
          · have HI3 := hid hJ3
            have c1 : w3.cell? ⟨A, 0, none⟩ = some (.string x) := cell_of_blk (HJ.out _ w3 hJ3).1 0
            clear hJ3 hR hy2
            by_cases h10 : x[k].toNat = 10
            · have q2 : (((x[k].toNat : Nat) : Int) == 10) = true := ieq (by omega)
              rw [nl_yes h10] at HD2
              clear h10
              gi_wp2
              go_roundw
              case rel => exact ⟨k + 1, c + 1, l + 1, by omega, by go_num, by go_num, by omega, HD2, HI3⟩
              case measure => simp [intOf]; omega
            · have q2 : (((x[k].toNat : Nat) : Int) == 10) = false := ine (by omega)
              rw [nl_no h10] at HD2
              clear h10
              gi_wp2
              go_roundw
              case rel => exact ⟨k + 1, c + 1, l, by omega, by go_num, by first | rfl | go_num, by omega, HD2, HI3⟩
              case measure => simp [intOf]; omega
          · clear hR hy2
            gi_wp2
            (try simp only [Exit.inBlock, Exit.then])
            refine bodyPost_ret (results_none rfl _ _ _) rfl ?_
            exact ⟨⟨_, rfl⟩, .inr ⟨_, hX3⟩⟩
      · have HE : Hid (J (plc x y).length wr) := hid (by
          have e : c = (plc x y).length := by
            have h1 : (plc x y).drop c = [] := by
              rw [HD.out.1]
              rcases HNE.out with e | e
              · rw [List.drop_of_length_le (by rw [dsize]; omega)]; rfl
              · rw [List.drop_of_length_le (l := y.data.toList) (by rw [dsize]; omega)]; exact Scn.pl_nil_r _ _ _
            have := List.drop_eq_nil_iff.1 h1
            have := HD.out.2
            omega
          rw [← e]; exact HI.out)
        gi_wp2
        go_end0
        exact ⟨⟨_, rfl⟩, .inl HE.out⟩
  · obtain ⟨N, hN⟩ : ∃ N, N = x.size := ⟨_, rfl⟩
    have h := Nat.not_lt.2 h
    have hA : N ≤ x.size := by omega
    have hB : N ≤ y.size := by omega
    have HNE : Hid (N = x.size ∨ N = y.size) := hid (by omega)
    gi_wp2
    rw [← hN]
    clear hN h
    gi_loopw [4, 11] (fun ln i wr => ∃ (k c l : Nat), k ≤ N ∧ i = .int .i64 k ∧ ln = .int .i64 l ∧ l ≤ k + 1 ∧ Hid ((plc x y).drop c = Scn.pl (x.data.toList.drop k) (y.data.toList.drop k) k l ∧ c ≤ (plc x y).length) ∧ Hid (J c wr)) (fun _ i _ => N - (intOf i).toNat)
    case atStart => exact ⟨0, 0, 1, Nat.zero_le _, rfl, rfl, by omega, hid ⟨rfl, Nat.zero_le _⟩, HI0⟩
    case round =>
      obtain ⟨k, c, l, hk, rfl, rfl, hl, HD, HI⟩ := hrel
      clear HI0 c1 c2
      by_cases hlt : k < N
      · have HX := hid (get_data (show k < x.size by omega))
        have HYY := hid (get_data (show k < y.size by omega))
        have HDR := hid (drop_atY HX.out)
        have HDS := hid (drop_atY HYY.out)
        have hkx : k < x.size := by omega
        have hky : k < y.size := by omega
        have bx : x[k].toNat < 256 := x[k].toNat_lt
        have by1 : y[k].toNat < 256 := y[k].toNat_lt
        have c1 : wr.cell? ⟨A, 0, none⟩ = some (.string x) := cell_of_blk (HJ.out c wr HI.out).1 0
        have c2 : wr.cell? ⟨B, 0, none⟩ = some (.string y) := cell_of_blk (HJ.out c wr HI.out).2 0
        have HI2 := hid (HLOW.out c wr _ HI.out (below_drewN (Below.refl _ _) 1))
        gi_upto_region 4 with fail
        by_cases hq : x[k] = y[k]
        · have q1 : (((x[k].toNat : Nat) : Int) != ((y[k].toNat : Nat) : Int)) = false := by rw [hq]; simp
          have HD2 : Hid ((plc x y).drop c = Scn.pl (x.data.toList.drop (k + 1)) (y.data.toList.drop (k + 1)) (k + 1) (Scn.nl x[k] l) ∧ c ≤ (plc x y).length) := hid ⟨by rw [HD.out.1, HDR.out, HDS.out, Scn.pl_same hq], HD.out.2⟩
          clear hq HD
          refine wpIn_region_qtail 21 (by kernel_rfl) (by kernel_rfl) ?_
          simp only [List.take_succ_cons, List.take_zero, List.drop_succ_cons, List.drop_zero]
          repeat go_big_quiet_step (fail)
          refine wpQuiet_nil ?_
          generalize wr.drewN 1 = w2 at HI2 ⊢
          clear c1 c2 HI
          have c1 : w2.cell? ⟨A, 0, none⟩ = some (.string x) := cell_of_blk (HJ.out c w2 HI2.out).1 0
          by_cases h10 : x[k].toNat = 10
          · have q2 : (((x[k].toNat : Nat) : Int) == 10) = true := ieq (by omega)
            rw [nl_yes h10] at HD2
            clear h10
            gi_wp2
            repeat (refine ⟨fun _ h => (by cases h), ?_⟩; gi_wp2)
            go_roundw
            case rel => exact ⟨k + 1, c, l + 1, by omega, by go_num, by go_num, by omega, HD2, HI2⟩
            case measure => simp [intOf]; omega
          · have q2 : (((x[k].toNat : Nat) : Int) == 10) = false := ine (by omega)
            rw [nl_no h10] at HD2
            clear h10
            gi_wp2
            repeat (refine ⟨fun _ h => (by cases h), ?_⟩; gi_wp2)
            go_roundw
            case rel => exact ⟨k + 1, c, l, by omega, by go_num, by first | rfl | go_num, by omega, HD2, HI2⟩
            case measure => simp [intOf]; omega
        · have q1 : (((x[k].toNat : Nat) : Int) != ((y[k].toNat : Nat) : Int)) = true := by
            rw [bne_iff_ne]
            intro e
            exact hq (UInt8.toNat_inj.1 (by omega))
          have HD1 : Hid ((plc x y).drop c = ⟨(k : Int) + 1, (l : Int), (x[k].toNat : Int), (y[k].toNat : Int)⟩ :: Scn.pl (x.data.toList.drop (k + 1)) (y.data.toList.drop (k + 1)) (k + 1) (Scn.nl x[k] l)) := hid (by rw [HD.out.1, HDR.out, HDS.out, Scn.pl_diff hq])
          clear hq HD
          have HG := hid (get_of_drop HD1.out)
          have HD2 : Hid ((plc x y).drop (c + 1) = Scn.pl (x.data.toList.drop (k + 1)) (y.data.toList.drop (k + 1)) (k + 1) (Scn.nl x[k] l) ∧ c + 1 ≤ (plc x y).length) := hid ⟨drop_of_drop HD1.out, HG.out.1⟩
          have i3 : IntKind.i64.wrap ((k : Int) + 1) = (k : Int) + 1 := by rw [IntKind.wrap_i64]; omega
          refine wpIn_region_qtail 21 (by kernel_rfl) (by kernel_rfl) ?_
          simp only [List.take_succ_cons, List.take_zero, List.drop_succ_cons, List.drop_zero]
          repeat go_big_quiet_step (fail)
          refine wpQuiet_nil ?_
          generalize wr.drewN 1 = w2 at HI2 ⊢
          clear c1 c2 HI
          obtain ⟨fn, tmps, assign, body, hy2, hR⟩ := HY.out c w2 HI2.out HG.out.1
          unfold uEnc at hy2
          rw [HG.out.2] at hy2
          dsimp only [uV] at hy2
          gi_wp2
          refine ⟨fun h => by simp [Fence.wide] at h, ?_⟩
          refine hR.mono ?_
          rintro e w3 (⟨rfl, hJ3⟩ | ⟨rfl, hX3⟩)
          · have HI3 := hid hJ3
            have c1 : w3.cell? ⟨A, 0, none⟩ = some (.string x) := cell_of_blk (HJ.out _ w3 hJ3).1 0
            clear hJ3 hR hy2
            by_cases h10 : x[k].toNat = 10
            · have q2 : (((x[k].toNat : Nat) : Int) == 10) = true := ieq (by omega)
              rw [nl_yes h10] at HD2
              clear h10
              gi_wp2
              go_roundw
              case rel => exact ⟨k + 1, c + 1, l + 1, by omega, by go_num, by go_num, by omega, HD2, HI3⟩
              case measure => simp [intOf]; omega
            · have q2 : (((x[k].toNat : Nat) : Int) == 10) = false := ine (by omega)
              rw [nl_no h10] at HD2
              clear h10
              gi_wp2
              go_roundw
              case rel => exact ⟨k + 1, c + 1, l, by omega, by go_num, by first | rfl | go_num, by omega, HD2, HI3⟩
              case measure => simp [intOf]; omega
          · clear hR hy2
            gi_wp2
            (try simp only [Exit.inBlock, Exit.then])
            refine bodyPost_ret (results_none rfl _ _ _) rfl ?_
            exact ⟨⟨_, rfl⟩, .inr ⟨_, hX3⟩⟩
      · have HE : Hid (J (plc x y).length wr) := hid (by
          have e : c = (plc x y).length := by
            have h1 : (plc x y).drop c = [] := by
              rw [HD.out.1]
              rcases HNE.out with e | e
              · rw [List.drop_of_length_le (by rw [dsize]; omega)]; rfl
              · rw [List.drop_of_length_le (l := y.data.toList) (by rw [dsize]; omega)]; exact Scn.pl_nil_r _ _ _
            have := List.drop_eq_nil_iff.1 h1
            have := HD.out.2
            omega
          rw [← e]; exact HI.out)
        gi_wp2
        go_end0
        exact ⟨⟨_, rfl⟩, .inl HE.out⟩
end Go.Proofs.Ytagjjhlegojpbaa
