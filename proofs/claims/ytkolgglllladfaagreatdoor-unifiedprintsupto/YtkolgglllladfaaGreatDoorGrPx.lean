/-
  Several texts in one: Px, Py.
-/
import Derived.Test.YtkolgglllladfaaGreatDoorGrKz
import Derived.Test.YtkolgglllladfaaGreatDoorGrXq
import Derived.Lib.ItoaLen
import Derived.Deep.Quiet
/-
  The document's Digits, span, Tail, has, NameOK (layer 11). (Made by wip/genpx.py.)
-/
namespace Go.Proofs.YtkolgglllladfaaGreatDoor.Ub
open Go.RowKit
open Hu (Rw Hk)

theorem digit_all : ∀ i : Fin 10, (ByteArray.mk #[48, 49, 50, 51, 52, 53, 54, 55, 56, 57]).extract i.val (i.val + 1) = bB [UInt8.ofNat (48 + i.val)] := by decide +kernel
theorem digit_one {n : Nat} (h : n < 10) : (ByteArray.mk #[48, 49, 50, 51, 52, 53, 54, 55, 56, 57]).extract n (n + 1) = bB [UInt8.ofNat (48 + n)] := digit_all ⟨n, h⟩
theorem decD_small {n : Nat} (h : n < 10) : Lib.decDigits n = [UInt8.ofNat (48 + n)] := Lib.decDigits_one h
theorem decD_big {n : Nat} (h : ¬ n < 10) : Lib.decDigits n = Lib.decDigits (n / 10) ++ [UInt8.ofNat (48 + n % 10)] := by rw [Lib.decDigits, dif_neg h]
theorem decD_len (n : Nat) (h : n ≤ 9223372036854775807) : (Lib.decDigits n).length ≤ 21 := by
  rw [Lib.decDigits_length]
  have := Lib.nDigits_le20 n (by omega)
  omega
set_option maxHeartbeats 2000000 in
theorem digits_any : ∀ (m n : Nat), n ≤ m → n ≤ 9223372036854775807 → ∀ w : World, Calls Tryz.prog 46 #[.int .i64 (n : Int)] w fun e w' => e = .returned (.string (bB (Lib.decDigits n))) ∧ Below w.heap.size w w' := by
  intro m
  induction m with
  | zero =>
    intro n hm hn w
    obtain rfl : n = 0 := by omega
    rw [decD_small (by decide)]
    go_enter Tryz.func46, Tryz.ntmps46
    go_wp2
    go_ret
    exact ⟨rfl, Below.refl _ _⟩
  | succ m ih =>
    intro n hm hn w
    by_cases h : n < 10
    · rw [decD_small h, ← digit_one h]
      have i1 : (n : Int) < 10 := by omega
      have s1 : IntKind.i64.wrap ((n : Int) + 1) = ((n + 1 : Nat) : Int) := by rw [wrapOk (by omega) (by omega)]; omega
      go_enter Tryz.func46, Tryz.ntmps46
      go_wp2
      go_ret
      exact ⟨rfl, Below.refl _ _⟩
    · have HI := hid (ih (n / 10) (by omega) (by omega))
      have hl : (bB (Lib.decDigits (n / 10))).size ≤ 21 := by rw [bB_size]; exact decD_len _ (by omega)
      have hr : n % 10 < 10 := Nat.mod_lt _ (by decide)
      have HE : Hid (bB (Lib.decDigits (n / 10)) ++ (ByteArray.mk #[48, 49, 50, 51, 52, 53, 54, 55, 56, 57]).extract (n % 10) (n % 10 + 1) = bB (Lib.decDigits n)) := hid (by rw [digit_one hr, bB_app, ← decD_big h])
      have he : ((ByteArray.mk #[48, 49, 50, 51, 52, 53, 54, 55, 56, 57]).extract (n % 10) (n % 10 + 1)).size ≤ 10 := by rw [digit_one hr, bB_size]; simp
      have q1 : IntKind.i64.wrap ((n : Int) / 10) = ((n / 10 : Nat) : Int) := by rw [wrapOk (by omega) (by omega)]; omega
      have q2 : (n : Int).tmod 10 = ((n % 10 : Nat) : Int) := by rw [Int.tmod_eq_emod_of_nonneg (by omega)]; omega
      have i1 : (10 : Int) ≤ (n : Int) := by omega
      rw [← HE.out]
      clear HE ih
      generalize bB (Lib.decDigits (n / 10)) = D at HI hl ⊢
      generalize n / 10 = d at HI q1
      obtain ⟨r, hrr⟩ : ∃ r, r = n % 10 := ⟨_, rfl⟩
      rw [← hrr] at hr he q2 ⊢
      obtain ⟨r1, hr1⟩ : ∃ r1, r1 = r + 1 := ⟨_, rfl⟩
      rw [← hr1] at he ⊢
      have q3 : IntKind.i64.wrap ((r : Int) + 1) = (r1 : Int) := by rw [wrapOk (by omega) (by omega)]; omega
      have j1 : (0 : Int) ≤ (r : Int) := by omega
      have j4 : r ≤ r1 := by omega
      have j5 : r1 ≤ 10 := by omega
      have j2 : (r : Int) ≤ (r1 : Int) := by omega
      have j3 : (r1 : Int) ≤ 10 := by omega
      clear hrr hr1 h
      go_enter Tryz.func46, Tryz.ntmps46
      go_wp2_with fail
      go_region_with (go_at_call 46; refine (HI.out _).mono ?_; rintro e w1 ⟨rfl, hb1⟩; have HB1 := hid hb1; clear hb1)
      all_goals
        go_wp2
        go_ret
        exact ⟨rfl, Below.trans (b := w.drew) (below_drewN (Below.refl _ _) 1) HB1.out⟩
theorem dig_int {n : Int} (h0 : 0 ≤ n) (h1 : n ≤ 2147483647) (w : World) : Calls Tryz.prog 46 #[.int .i64 n] w fun e w' => e = .returned (.string (bB (Un.dec n))) ∧ Below w.heap.size w w' := by
  obtain ⟨u, rfl⟩ : ∃ u : Nat, n = u := ⟨n.toNat, by omega⟩
  rw [Un.dec_nat]
  exact digits_any u u (Nat.le_refl _) (by omega) w
set_option maxHeartbeats 2000000 in
theorem span_any {a n : Int} (h0 : 0 ≤ a) (h1 : a ≤ 2147483647) (h2 : 0 ≤ n) (h3 : n ≤ 2147483647) (w : World) :
    Calls Tryz.prog 22 #[.int .i64 a, .int .i64 n] w fun e w' => e = .returned (.string (bB (Un.rngT a n))) ∧ Below w.heap.size w w' := by
  have HA := hid (fun w1 => dig_int h0 h1 w1)
  have HN := hid (fun w1 => dig_int h2 h3 w1)
  have la : (bB (Un.dec a)).size ≤ 10 := by rw [bB_size]; exact dec10 h0 h1
  have ln : (bB (Un.dec n)).size ≤ 10 := by rw [bB_size]; exact dec10 h2 h3
  by_cases h : n = 1
  · subst h
    have HE : Hid (Un.rngT a 1 = Un.dec a) := hid (by unfold Un.rngT; rw [if_pos rfl])
    rw [HE.out]
    clear h0 h1 h2 h3 HN ln HE
    go_enter Tryz.func22, Tryz.ntmps22
    go_wp2_with fail
    refine (HA.out _).mono ?_
    rintro e w1 ⟨rfl, hb⟩
    go_wp2_with fail
    go_ret
    exact ⟨rfl, hb⟩
  · have HE := hid (rng_two (a := a) h)
    rw [← HE.out]
    have hn1 : (n == 1) = false := beq_eq_false_iff_ne.2 h
    generalize bB (Un.dec a) = A at HA la ⊢
    generalize bB (Un.dec n) = B at HN ln ⊢
    clear h0 h1 h2 h3 h HE
    go_enter Tryz.func22, Tryz.ntmps22
    go_wp2_with fail
    refine (HA.out _).mono ?_
    rintro e w1 ⟨rfl, hb1⟩
    have HB1 := hid hb1
    clear hb1
    go_wp2_with fail
    refine (HN.out _).mono ?_
    rintro e w2 ⟨rfl, hb2⟩
    have HB2 := hid (HB1.out.trans (hb2.mono HB1.out.size))
    clear hb2
    go_wp2_with fail
    go_ret
    exact ⟨rfl, HB2.out⟩
theorem tail_yes {s : ByteArray} (h : Pl.wh s.data.toList = true) : bB (Un.tailT s.data.toList) = s := by unfold Un.tailT; rw [if_pos h, bB_eta]
theorem tail_no {s : ByteArray} (h : Pl.wh s.data.toList = false) : bB (Un.tailT s.data.toList) = s ++ (⟨#[10]⟩ : ByteArray) ++ bB (Un.miss ++ [10]) := by
  unfold Un.tailT
  rw [if_neg (by rw [h]; exact Bool.false_ne_true), show (⟨#[10]⟩ : ByteArray) = bB [10] from rfl]
  apply ba_ext
  simp [bB]
set_option maxHeartbeats 2000000 in
theorem tail_any (s : ByteArray) (w : World) (hs : s.size ≤ 1099511627776) :
    Calls Tryz.prog 23 #[.string s] w fun e w' => e = .returned (.string (bB (Un.tailT s.data.toList))) ∧ w' = w := by
  have HW := hid (fun w1 => Cx.refWhole_any s w1 (by unfold maxLen; omega))
  cases h : Pl.wh s.data.toList with
  | true =>
    rw [h] at HW
    rw [tail_yes h]
    clear h
    go_enter Tryz.func23, Tryz.ntmps23
    go_wp2_with fail
    refine (HW.out _).mono ?_
    rintro e w1 ⟨rfl, rfl⟩
    go_wp2_with fail
    go_ret
    exact ⟨rfl, rfl⟩
  | false =>
    rw [h] at HW
    rw [tail_no h, show bB (Un.miss ++ [10]) = ⟨#[92, 32, 78, 111, 32, 110, 101, 119, 108, 105, 110, 101, 32, 97, 116, 32, 101, 110, 100, 32, 111, 102, 32, 102, 105, 108, 101, 10]⟩ from rfl]
    clear h
    go_enter Tryz.func23, Tryz.ntmps23
    go_wp2_with fail
    refine (HW.out _).mono ?_
    rintro e w1 ⟨rfl, rfl⟩
    go_wp2_with fail
    go_ret
    exact ⟨rfl, rfl⟩
end Go.Proofs.YtkolgglllladfaaGreatDoor.Ub
/-
  The document's has, NameOK, Shown (layer 11).
-/
namespace Go.Proofs.YtkolgglllladfaaGreatDoor.Ub
open Go.RowKit
open Hu (Rw Hk)

theorem take_next (s : ByteArray) (k : Nat) (h : k < s.size) : s.data.toList.take (k + 1) = s.data.toList.take k ++ [s[k]] := by
  rw [List.take_add_one, List.getElem?_eq_getElem (by rw [dsize]; exact h)]
  rfl
theorem take_full (s : ByteArray) : s.data.toList.take s.size = s.data.toList := List.take_of_length_le (by rw [dsize]; exact Nat.le_refl _)
theorem at_mem (s : ByteArray) (k : Nat) (h : k < s.size) : s[k] ∈ s.data.toList := Array.mem_toList_iff.2 (Array.getElem_mem h)
/-- one of the bytes -/
def hasP (s b : ByteArray) : Bool := s.data.toList.any fun c => b.data.toList.contains c
theorem has_hit {s b : ByteArray} {i k : Nat} (hi : i < s.size) (hk : k < b.size) (h : ((s[i].toNat : Int) == (b[k].toNat : Int)) = true) : hasP s b = true := by
  have e : s[i] = b[k] := UInt8.toNat_inj.1 (by have := beq_iff_eq.1 h; omega)
  unfold hasP
  rw [List.any_eq_true]
  exact ⟨s[i], at_mem s i hi, List.contains_iff_mem.2 (by rw [e]; exact at_mem b k hk)⟩
theorem in_next {s b : ByteArray} {i k : Nat} (hi : i < s.size) (hk : k < b.size) (h : ((s[i].toNat : Int) == (b[k].toNat : Int)) = false) (h0 : (b.data.toList.take k).contains s[i] = false) : (b.data.toList.take (k + 1)).contains s[i] = false := by
  rw [take_next b k hk, List.contains_eq_mem, decide_eq_false]
  rw [List.contains_eq_mem] at h0
  intro hm
  rcases List.mem_append.1 hm with hm | hm
  · exact absurd hm (of_decide_eq_false h0)
  · rw [List.mem_singleton.1 hm] at h
    simp at h
theorem out_next {s b : ByteArray} {i : Nat} (hi : i < s.size) (h : (b.data.toList.take b.size).contains s[i] = false) (h0 : ((s.data.toList.take i).any fun c => b.data.toList.contains c) = false) : ((s.data.toList.take (i + 1)).any fun c => b.data.toList.contains c) = false := by
  rw [take_full] at h
  rw [take_next s i hi, List.any_append, h0]
  simp only [List.any_cons, List.any_nil, h]
  rfl
set_option maxHeartbeats 4000000 in
set_option maxRecDepth 100000 in
theorem has_any (s b : ByteArray) (w : World) (hs : s.size ≤ 1099511627776) (hb : b.size ≤ 1099511627776) :
    Calls Tryz.prog 64 #[.string s, .string b] w fun e w' => e = .returned (.bool (hasP s b)) ∧ Below w.heap.size w w' := by
  go_enter Tryz.func64, Tryz.ntmps64
  go_wp2_with fail
  go_loopw [5] (fun ii wr => ∃ i : Nat, i ≤ s.size ∧ ii = .int .i64 i ∧ Hid (Below w.heap.size w wr) ∧ Hid (((s.data.toList.take i).any fun c => b.data.toList.contains c) = false)) (fun ii _ => s.size - (intOf ii).toNat)
  case atStart => exact ⟨0, Nat.zero_le _, rfl, hid (Below.refl _ _), hid rfl⟩
  case round =>
    obtain ⟨i, hi, rfl, HB, HN⟩ := hrel
    by_cases hlt : i < s.size
    · have i1 : (0 : Int) ≤ (i : Int) := by omega
      have i2 : (i : Int) < (s.size : Int) := by omega
      obtain ⟨wo, hwo⟩ : ∃ wo, wo = wr := ⟨_, rfl⟩
      subst hwo
      go_wp2_with fail
      go_loopw [6] (fun kk wr => ∃ k : Nat, k ≤ b.size ∧ kk = .int .i64 k ∧ Hid (Below w.heap.size w wr) ∧ Hid ((b.data.toList.take k).contains s[i] = false)) (fun kk _ => b.size - (intOf kk).toNat)
      case atStart => exact ⟨0, Nat.zero_le _, rfl, HB, hid (by rw [List.take_zero]; rfl)⟩
      case round =>
        obtain ⟨k, hk, rfl, HBr, HK⟩ := hrel
        by_cases hkt : k < b.size
        · have j1 : (0 : Int) ≤ (k : Int) := by omega
          have j2 : (k : Int) < (b.size : Int) := by omega
          cases hq : ((s[i].toNat : Int) == (b[k].toNat : Int)) with
          | true =>
            have HH := hid (has_hit hlt hkt hq)
            go_wp2_with fail
            go_quiet (fail)
            have HBq := hid (below_drewN HBr.out nq)
            go_wp2_with fail
            go_ret
            exact ⟨by rw [HH.out]; rfl, HBq.out⟩
          | false =>
            have HH := hid (in_next hlt hkt hq HK.out)
            go_wp2_with fail
            go_quiet (fail)
            have HBq := hid (below_drewN HBr.out nq)
            go_wp2_with fail
            go_roundw
            case rel => exact ⟨k + 1, by omega, by go_num, HBq, HH⟩
            case measure => simp [intOf]; omega
        · obtain rfl : k = b.size := by omega
          have j2 : ¬ ((b.size : Int) < (b.size : Int)) := by omega
          have HH := hid (out_next hlt HK.out HN.out)
          go_wp2_with fail
          go_roundw
          case rel => exact ⟨i + 1, by omega, by go_num, HBr, HH⟩
          case measure => simp [intOf]; omega
    · obtain rfl : i = s.size := by omega
      have i2 : ¬ ((s.size : Int) < (s.size : Int)) := by omega
      have HH : Hid (hasP s b = false) := hid (by have := HN.out; rw [take_full] at this; exact this)
      go_wp2_with fail
      go_ret
      exact ⟨by rw [HH.out]; rfl, HB.out⟩
theorem has_zero (p : ByteArray) : hasP p ⟨#[0]⟩ = p.data.toList.contains 0 := by
  unfold hasP
  rw [show (ByteArray.mk #[0]).data.toList = [0] from rfl]
  rw [Bool.eq_iff_iff, List.any_eq_true, List.contains_iff_mem]
  constructor
  · rintro ⟨c, h1, h2⟩
    rw [List.contains_iff_mem, List.mem_singleton] at h2
    rw [← h2]
    exact h1
  · intro h
    exact ⟨0, h, rfl⟩
theorem has_three (s : ByteArray) : hasP s ⟨#[9, 10, 0]⟩ = !(!s.data.toList.contains 9 && (!s.data.toList.contains 10 && !s.data.toList.contains 0)) := by
  rw [← any_three]
  unfold hasP
  congr 1
  funext c
  rw [show (ByteArray.mk #[9, 10, 0]).data.toList = [9, 10, 0] from rfl]
  show (match c == 9 with | true => true | false => (match c == 10 with | true => true | false => (match c == 0 with | true => true | false => false))) = _
  cases c == 9 <;> cases c == 10 <;> cases c == 0 <;> rfl
set_option maxHeartbeats 2000000 in
set_option maxRecDepth 100000 in
theorem rNameOK_any (p s : ByteArray) (w : World) (hp : p.size ≤ 1099511627776) (hs : s.size ≤ 1099511627776) :
    Calls Tryz.prog 32 #[.agg #[.string p, .string s]] w fun e w' => e = .returned (.bool (Un.nameOk (p.data.toList, s.data.toList))) ∧ Below w.heap.size w w' := by
  have HBA := hid ((Below.refl w.heap.size w).alloc (Nat.le_refl _) (.cells #[.string p, .string s] 23))
  have HKA := hid (heap_alloc_new w (.cells #[.string p, .string s] 23))
  have HC := hid (fun w1 => has_any p ⟨#[0]⟩ w1 hp (by decide))
  rw [has_zero] at HC
  have HN := hid (fun w1 => has_any s ⟨#[9, 10, 0]⟩ w1 hs (by decide))
  rw [has_three] at HN
  obtain ⟨G, hG⟩ : ∃ G, G = w.heap.size := ⟨_, rfl⟩
  rw [← hG] at HKA
  have HOK : Hid (Un.nameOk (p.data.toList, s.data.toList) = (!p.data.toList.isEmpty && (!p.data.toList.contains 0 && (!s.data.toList.contains 9 && (!s.data.toList.contains 10 && !s.data.toList.contains 0))))) := hid rfl
  rw [HOK.out]
  generalize (!s.data.toList.contains 9 && (!s.data.toList.contains 10 && !s.data.toList.contains 0)) = S3 at HN ⊢
  by_cases h0 : p.size = 0
  · have he : p.data.toList.isEmpty = true := by rw [List.isEmpty_iff]; exact List.length_eq_zero_iff.1 (by rw [dsize]; exact h0)
    have HE := hid he
    have hx := Cx.empty_yes p h0
    clear he h0 hs hp
    go_enter Tryz.func32, Tryz.ntmps32
    go_wp2_with fail
    go_ret
    exact ⟨by rw [HE.out]; rfl, HBA.out⟩
  · have he : p.data.toList.isEmpty = false := by
      cases hq : p.data.toList.isEmpty with
      | false => rfl
      | true => exact absurd (by rw [← dsize, List.isEmpty_iff.1 hq]; rfl) h0
    have HE := hid he
    have hx := Cx.empty_no p h0
    clear he h0 hs hp
    cases hz : p.data.toList.contains 0 with
    | true =>
      rw [hz] at HC
      clear hz
      go_enter Tryz.func32, Tryz.ntmps32
      go_wp2_with fail
      refine (HC.out _).mono ?_
      rintro e w1 ⟨rfl, hb1⟩
      have HB := hid (HBA.out.trans (hb1.mono HBA.out.size))
      clear hb1
      go_wp2_with fail
      go_ret
      exact ⟨by rw [HE.out]; rfl, HB.out⟩
    | false =>
      rw [hz] at HC
      clear hz
      go_enter Tryz.func32, Tryz.ntmps32
      go_wp2_with fail
      rw [← hG]
      clear hG
      generalize w.alloc (.cells #[.string p, .string s] 23) = w0 at HBA HKA ⊢
      refine (HC.out w0).mono ?_
      rintro e w1 ⟨rfl, hb1⟩
      have HB1 := hid (HBA.out.trans (hb1.mono HBA.out.size))
      have HK1 := hid ((hb1.block G (lt_of_heap HKA.out)).trans HKA.out)
      have c1 : w1.cell? ⟨G, 1, none⟩ = some (.string s) := cell_of_blk HK1.out 1
      clear hb1
      go_wp2_with fail
      refine (HN.out w1).mono ?_
      rintro e w2 ⟨rfl, hb2⟩
      have HB := hid (HB1.out.trans (hb2.mono HB1.out.size))
      clear hb2
      go_wp2_with fail
      go_ret
      exact ⟨by rw [HE.out]; cases S3 <;> rfl, HB.out⟩
/-- a name as a header tells it -/
def shT (n : Un.Bs × Un.Bs) : Un.Bs := Pq.quote n.1 ++ (if n.2 = [] then [] else 9 :: n.2)
theorem sh_bare {p s : ByteArray} (h : s.size = 0) : bB (shT (p.data.toList, s.data.toList)) = bB (Pq.quote p.data.toList) := by
  unfold shT
  rw [if_pos (List.length_eq_zero_iff.1 (by rw [dsize]; exact h)), List.append_nil]
theorem sh_stamp {p s : ByteArray} (h : s.size ≠ 0) : bB (shT (p.data.toList, s.data.toList)) = bB (Pq.quote p.data.toList) ++ (⟨#[9]⟩ : ByteArray) ++ s := by
  unfold shT
  rw [if_neg (fun e => h (by rw [← dsize]; show (s.data.toList).length = 0; rw [show s.data.toList = [] from e]; rfl)), show (⟨#[9]⟩ : ByteArray) = bB [9] from rfl]
  apply ba_ext
  simp [bB]
set_option maxHeartbeats 2000000 in
set_option maxRecDepth 100000 in
theorem rShown_any (p s : ByteArray) (w : World) (hp : p.size ≤ 1099511627776) (hs : s.size ≤ 1099511627776) :
    Calls Tryz.prog 17 #[.agg #[.string p, .string s]] w fun e w' => e = .returned (.string (bB (shT (p.data.toList, s.data.toList)))) ∧ Below w.heap.size w w' := by
  have HBA := hid ((Below.refl w.heap.size w).alloc (Nat.le_refl _) (.cells #[.string p, .string s] 23))
  have HKA := hid (heap_alloc_new w (.cells #[.string p, .string s] 23))
  have HQ := hid (fun w1 => Cx.refQuote_any p w1 (by omega))
  have hql := quote_le p
  obtain ⟨G, hG⟩ : ∃ G, G = w.heap.size := ⟨_, rfl⟩
  rw [← hG] at HKA
  have hqe : Hid ((⟨(Pq.quote p.data.toList).toArray⟩ : ByteArray) = bB (Pq.quote p.data.toList)) := hid rfl
  rw [hqe.out] at HQ
  by_cases h0 : s.size = 0
  · have HE := hid (sh_bare (p := p) h0)
    rw [HE.out]
    generalize bB (Pq.quote p.data.toList) = Q at HQ hql ⊢
    have hx := Cx.empty_yes s h0
    clear h0 HE
    go_enter Tryz.func17, Tryz.ntmps17
    go_wp2_with fail
    rw [← hG]
    clear hG
    generalize w.alloc (.cells #[.string p, .string s] 23) = w0 at HBA HKA ⊢
    refine (HQ.out w0).mono ?_
    rintro e w1 ⟨rfl, hb1⟩
    have HB1 := hid (HBA.out.trans (hb1.mono HBA.out.size))
    have HK1 := hid ((hb1.block G (lt_of_heap HKA.out)).trans HKA.out)
    have c1 : w1.cell? ⟨G, 1, none⟩ = some (.string s) := cell_of_blk HK1.out 1
    clear hb1
    go_wp2_with fail
    go_ret
    exact ⟨rfl, HB1.out⟩
  · have HE := hid (sh_stamp (p := p) h0)
    rw [HE.out]
    generalize bB (Pq.quote p.data.toList) = Q at HQ hql ⊢
    have hx := Cx.empty_no s h0
    clear h0 HE
    go_enter Tryz.func17, Tryz.ntmps17
    go_wp2_with fail
    rw [← hG]
    clear hG
    generalize w.alloc (.cells #[.string p, .string s] 23) = w0 at HBA HKA ⊢
    refine (HQ.out w0).mono ?_
    rintro e w1 ⟨rfl, hb1⟩
    have HB1 := hid (HBA.out.trans (hb1.mono HBA.out.size))
    have HK1 := hid ((hb1.block G (lt_of_heap HKA.out)).trans HKA.out)
    have c1 : w1.cell? ⟨G, 1, none⟩ = some (.string s) := cell_of_blk HK1.out 1
    clear hb1
    go_wp2_with fail
    go_ret
    exact ⟨rfl, HB1.out⟩
end Go.Proofs.YtkolgglllladfaaGreatDoor.Ub
