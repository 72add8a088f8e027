/-
  Several texts in one: Ka, Ko.
-/
import Derived.Test.YthnibchlgcgalaaGreatDoorGrJ6
import Derived.Test.YthnibchlgcgalaaGreatDoorGrX
/-
  The document's old, fresh, line, start, Place, Counts.
-/
namespace Go.Proofs.YthnibchlgcgalaaGreatDoor
open Go.RowKit
open Hu (Rw Hk)

set_option maxHeartbeats 1000000 in
set_option maxRecDepth 100000 in
theorem rOld_any (r : Rw) (w : World) : Calls Tryz.prog 50 #[RwV r] w fun e w' => e = .returned (.bool (Hu.isO r)) ∧ Below w.heap.size w w' := by
  have HB := hid ((Below.refl w.heap.size w).alloc (Nat.le_refl _) (.cells #[.int .i64 r.k, .string r.t] 50))
  unfold RwV Hu.isO
  cases h2 : (r.k == 1) <;> cases h3 : (r.k == 2)
  all_goals
    go_enter Tryz.func50, Tryz.ntmps50
    go_wp2
    go_ret
    exact ⟨rfl, HB.out⟩
set_option maxHeartbeats 1000000 in
set_option maxRecDepth 100000 in
theorem rFresh_any (r : Rw) (w : World) : Calls Tryz.prog 51 #[RwV r] w fun e w' => e = .returned (.bool (Hu.isF r)) ∧ Below w.heap.size w w' := by
  have HB := hid ((Below.refl w.heap.size w).alloc (Nat.le_refl _) (.cells #[.int .i64 r.k, .string r.t] 50))
  unfold RwV Hu.isF
  cases h2 : (r.k == 1) <;> cases h3 : (r.k == 3)
  all_goals
    go_enter Tryz.func51, Tryz.ntmps51
    go_wp2
    go_ret
    exact ⟨rfl, HB.out⟩
theorem start_no {a : Int} {n : Nat} {M : Int} (hM : M = if (n : Int) = 0 then 0 else 1) (h : ¬ M ≤ a) : Hu.startD a n = false := by unfold Hu.startD; rw [← hM, decide_eq_false h]; rfl
theorem start_no2 {a : Int} {n : Nat} (h : ¬ a ≤ 2147483647 - (n : Int)) : Hu.startD a n = false := by unfold Hu.startD; rw [decide_eq_false h]; simp
theorem start_yes {a : Int} {n : Nat} {M : Int} (hM : M = if (n : Int) = 0 then 0 else 1) (h : M ≤ a) (h2 : a ≤ 2147483647 - (n : Int)) : Hu.startD a n = true := by unfold Hu.startD; rw [← hM, decide_eq_true h, decide_eq_true h2]; rfl
set_option maxHeartbeats 2000000 in
set_option maxRecDepth 100000 in
theorem rStart_any (a : Int) (n : Nat) (w : World) (hn : n < 8796093022200) : Calls Tryz.prog 27 #[.int .i64 a, .int .i64 n] w fun e w' => e = .returned (.bool (Hu.startD a n)) ∧ w' = w := by
  have i1 : IntKind.i64.wrap (2147483647 - (n : Int)) = 2147483647 - (n : Int) := wrapOk (by omega) (by omega)
  by_cases h0 : n = 0
  · subst h0
    by_cases h1 : (0 : Int) ≤ a
    · by_cases h2 : a ≤ 2147483647
      · have HE := hid (start_yes (a := a) (n := 0) (M := 0) rfl h1 (by omega))
        rw [HE.out]
        go_enter Tryz.func27, Tryz.ntmps27
        go_wp2_with fail
        go_ret
        exact ⟨rfl, rfl⟩
      · have HE := hid (start_no2 (a := a) (n := 0) (by omega))
        rw [HE.out]
        go_enter Tryz.func27, Tryz.ntmps27
        go_wp2_with fail
        go_ret
        exact ⟨rfl, rfl⟩
    · have HE := hid (start_no (a := a) (n := 0) (M := 0) rfl h1)
      rw [HE.out]
      go_enter Tryz.func27, Tryz.ntmps27
      go_wp2_with fail
      go_ret
      exact ⟨rfl, rfl⟩
  · have z0 : ((n : Int) == 0) = false := zne (by omega)
    have hM : (1 : Int) = if (n : Int) = 0 then 0 else 1 := by rw [if_neg (by omega)]
    by_cases h1 : (1 : Int) ≤ a
    · by_cases h2 : a ≤ 2147483647 - (n : Int)
      · have HE := hid (start_yes hM h1 h2)
        rw [HE.out]
        clear hM h0
        go_enter Tryz.func27, Tryz.ntmps27
        go_wp2_with fail
        go_ret
        exact ⟨rfl, rfl⟩
      · have HE := hid (start_no2 h2)
        rw [HE.out]
        clear hM h0
        go_enter Tryz.func27, Tryz.ntmps27
        go_wp2_with fail
        go_ret
        exact ⟨rfl, rfl⟩
    · have HE := hid (start_no hM h1)
      rw [HE.out]
      clear hM h0
      go_enter Tryz.func27, Tryz.ntmps27
      go_wp2_with fail
      go_ret
      exact ⟨rfl, rfl⟩
set_option maxHeartbeats 2000000 in
set_option maxRecDepth 100000 in
theorem rLine_any (x : ByteArray) (w : World) (hs : x.size ≤ maxLen) : Calls Tryz.prog 52 #[.string x] w fun e w' => e = .returned (.bool (Hu.okT x)) ∧ w' = w := by
  unfold maxLen at hs
  by_cases h0 : x.size = 0
  · have HE : Hid (Hu.okT x = false) := hid (Cx.ok1_no0 x h0)
    have he := Cx.empty_yes x h0
    have i1 : (x.size : Int) = 0 := by omega
    rw [HE.out]
    clear h0
    go_enter Tryz.func52, Tryz.ntmps52
    go_wp2_with fail
    refine wp_loop_rounds 1 ?_
    rw [rounds_succ]
    go_wp2_with fail
    go_ret
    exact ⟨rfl, rfl⟩
  · have he := Cx.empty_no x h0
    go_enter Tryz.func52, Tryz.ntmps52
    go_wp2_with fail
    go_loop [3] (fun t => ∃ j : Nat, j ≤ x.size - 1 ∧ t = .int .i64 j ∧ (10 : UInt8) ∉ x.data.toList.take j) (fun t => x.size - (intOf t).toNat)
    case atStart => exact ⟨0, Nat.zero_le _, rfl, by simp⟩
    case round =>
      obtain ⟨j, hj, rfl, hno⟩ := hrel
      have HO := hid hno
      clear hno
      by_cases hjl : j + 1 < x.size
      · have hjx : j < x.size := by omega
        cases hq : ((x[j].toNat : Int) == 10) with
        | true =>
          have HE : Hid (Hu.okT x = false) := hid (Cx.ok1_part x j hjx hq hjl)
          go_wp2_with fail
          go_ret
          exact ⟨ret_bool HE.out.symm, rfl⟩
        | false =>
          have hm := hid (Cx.take_miss x j hjx hq HO.out)
          go_wp2_with fail
          go_round
          case rel => exact ⟨j + 1, by omega, by go_num, hm.out⟩
          case measure => simp [intOf]; omega
      · have hjs : j = x.size - 1 := by omega
        subst hjs
        have HE : Hid (Hu.okT x = true) := hid (Cx.ok1_full x h0 HO.out)
        go_wp2_with fail
        go_ret
        exact ⟨ret_bool HE.out.symm, rfl⟩
set_option maxHeartbeats 4000000 in
set_option maxRecDepth 100000 in
theorem rCounts_any {w : World} {v : Value} {l : List Rw} (hv : RdW w v l) (hl : l.length < 5864062014800) :
    Calls Tryz.prog 25 #[v] w fun e w' => e = .returned (.tuple #[.int .i64 ((Hu.olds l).length : Nat), .int .i64 ((Hu.fres l).length : Nat)]) ∧ Below w.heap.size w w' := by
  obtain ⟨av, cv, rfl⟩ := hv.shape
  have HV := hid hv
  obtain ⟨n, hn⟩ : ∃ n, n = l.length := ⟨_, rfl⟩
  have HN := hid hn
  rw [← hn] at HV hl ⊢
  clear hv hn
  go_enter Tryz.func25, Tryz.ntmps25
  go_wp2_with fail
  go_loopw [4, 5, 6] (fun p q ii wr => ∃ (k x y : Nat), k ≤ n ∧ ii = .int .i64 k ∧ p = .int .i64 x ∧ q = .int .i64 y ∧ x ≤ k ∧ y ≤ k ∧ Hid (x = (Hu.olds (l.take k)).length) ∧ Hid (y = (Hu.fres (l.take k)).length) ∧ Hid (Below w.heap.size w wr)) (fun _ _ ii _ => n - (intOf ii).toNat)
  case atStart => exact ⟨0, 0, 0, Nat.zero_le _, rfl, rfl, rfl, Nat.le_refl _, Nat.le_refl _, hid (by simp [Hu.olds]), hid (by simp [Hu.fres]), Below.refl _ _⟩
  case round =>
    obtain ⟨k, x, y, hk, rfl, rfl, rfl, hx, hy, HX, HY, HB⟩ := hrel
    by_cases hlt : k < n
    · obtain ⟨z, hz⟩ : ∃ z, l[k]? = some z := ⟨_, List.getElem?_eq_getElem (by have := HN.out; omega)⟩
      obtain ⟨b1, o1, e1, hb1, d0, d1⟩ := rdW_at HV.out hz
      subst e1
      replace d0 := (HB.out.cell (p := ⟨b1, _, none⟩) hb1).trans d0
      replace d1 := (HB.out.cell (p := ⟨b1, _, none⟩) hb1).trans d1
      have HO := hid (olds_take_len hz)
      have HF := hid (fres_take_len hz)
      have HC1 := hid (fun w1 => rOld_any z w1)
      have HC2 := hid (fun w1 => rFresh_any z w1)
      unfold RwV at HC1 HC2
      have i1 : (0 : Int) ≤ (k : Int) := by omega
      have i2 : (k : Int) < (n : Int) := by omega
      have s1 : IntKind.i64.wrap ((x : Int) + 1) = (x : Int) + 1 := wrapOk (by omega) (by omega)
      have s2 : IntKind.i64.wrap ((y : Int) + 1) = (y : Int) + 1 := wrapOk (by omega) (by omega)
      have s3 : IntKind.i64.wrap ((k : Int) + 1) = (k : Int) + 1 := wrapOk (by omega) (by omega)
      have HCELL : Hid (∀ w1, Below wr.heap.size wr w1 → w1.cell? ⟨b1, o1 + k * 2, none⟩ = some (.int .i64 z.k) ∧ w1.cell? ⟨b1, o1 + k * 2 + 1, none⟩ = some (.string z.t)) := hid (fun w1 h => ⟨(h.cell (p := ⟨b1, _, none⟩) (Nat.lt_of_lt_of_le hb1 HB.out.size)).trans d0, (h.cell (p := ⟨b1, _, none⟩) (Nat.lt_of_lt_of_le hb1 HB.out.size)).trans d1⟩)
      generalize Hu.isO z = qo at HC1 HO
      generalize Hu.isF z = qf at HC2 HF
      clear hz hb1
      cases qo <;> cases qf
      all_goals
        go_wp2_with fail
        refine (HC1.out _).mono ?_
        rintro e w2 ⟨rfl, h2⟩
        have HB2 := hid (HB.out.trans (h2.mono HB.out.size))
        obtain ⟨t0, t1⟩ := HCELL.out w2 h2
        clear h2
        go_wp2_with fail
        refine (HC2.out _).mono ?_
        rintro e w3 ⟨rfl, h3⟩
        have HB3 := hid (HB2.out.trans (h3.mono HB2.out.size))
        clear h3
        go_wp2_with fail
        go_roundw
        case measure => simp [intOf]; omega
      case rel => exact ⟨k + 1, x, y, by omega, by go_num, rfl, rfl, by omega, by omega, hid (by have h := HO.out; have := HX.out; simp at h; omega), hid (by have h := HF.out; have := HY.out; simp at h; omega), HB3⟩
      case rel => exact ⟨k + 1, x, y + 1, by omega, by go_num, rfl, by go_num, by omega, by omega, hid (by have h := HO.out; have := HX.out; simp at h; omega), hid (by have h := HF.out; have := HY.out; simp at h; omega), HB3⟩
      case rel => exact ⟨k + 1, x + 1, y, by omega, by go_num, by go_num, rfl, by omega, by omega, hid (by have h := HO.out; have := HX.out; simp at h; omega), hid (by have h := HF.out; have := HY.out; simp at h; omega), HB3⟩
      case rel => exact ⟨k + 1, x + 1, y + 1, by omega, by go_num, by go_num, by go_num, by omega, by omega, hid (by have h := HO.out; have := HX.out; simp at h; omega), hid (by have h := HF.out; have := HY.out; simp at h; omega), HB3⟩
    · obtain rfl : k = n := by omega
      have hk2 : l.take k = l := List.take_of_length_le (by have := HN.out; omega)
      have HP2 : Hid (x = (Hu.olds l).length) := hid (by rw [HX.out, hk2])
      have HQ2 : Hid (y = (Hu.fres l).length) := hid (by rw [HY.out, hk2])
      clear hk2
      go_wp2_with fail
      go_ret2
      exact ⟨by rw [← HP2.out, ← HQ2.out]; rfl, HB.out⟩
end Go.Proofs.YthnibchlgcgalaaGreatDoor
/-
  The document's put, stated (made by wip/genko.py out of J8).
-/
namespace Go.Proofs.YthnibchlgcgalaaGreatDoor
open Go.RowKit
open Hu (Rw Hk)
open Ed (Ch)

set_option maxHeartbeats 2000000 in
set_option maxRecDepth 100000 in
theorem rPut_any {w : World} {v vt : Value} {l : List Rw} {ts : List ByteArray} {kd : Int} {B : Nat} (ho : OwnW w B v l) (hB : B ≤ w.heap.size) (ht : RdT w vt ts) (hu : Under B vt) (hl : l.length + ts.length < 5864062014800) :
    Calls Tryz.prog 44 #[v, .int .i64 kd, vt] w fun e w' => ∃ v', e = .returned v' ∧ OwnW w' B v' (l ++ Hu.mk kd ts) ∧ Below B w w' ∧ OwnOnly w w' v v' := by
  obtain ⟨at', ct, rfl⟩ := ht.shape
  obtain ⟨ao, co, rfl⟩ := own_shape ho
  have HT := hid ht
  have HU := hid hu
  obtain ⟨n, hn⟩ : ∃ n, n = ts.length := ⟨_, rfl⟩
  have HN := hid hn
  rw [← hn] at HT HU hl ⊢
  have HO := hid ho
  clear ht hu hn ho
  go_enter Tryz.func44, Tryz.ntmps44
  go_wp2_with fail
  go_loopw [0, 7] (fun vo ii wr => ∃ (k : Nat) (X : List Rw), k ≤ n ∧ ii = .int .i64 k ∧ Hid (X = l ++ Hu.mk kd (ts.take k)) ∧ Hid (OwnW wr B vo X) ∧ Hid (Below B w wr) ∧ Hid (OwnOnly w wr (.slice ao l.length co) vo)) (fun _ ii _ => n - (intOf ii).toNat)
  case atStart => exact ⟨0, l, Nat.zero_le _, rfl, hid (by simp [Hu.mk]), HO, Below.refl _ _, OwnOnly.refl _ _⟩
  case round =>
    obtain ⟨k, X, hk, rfl, HX, HW, HB, HOO⟩ := hrel
    obtain ⟨a1, c1, rfl⟩ := own_shape HW.out
    have HSZ : Hid (w.heap.size ≤ wr.heap.size) := hid HB.out.size
    by_cases hlt : k < n
    · obtain ⟨x, hx⟩ : ∃ x, ts[k]? = some x := ⟨_, List.getElem?_eq_getElem (by have := HN.out; omega)⟩
      obtain ⟨b1, o1, e1, hb1, d0⟩ := rdT_at (HT.out.keep HU.out HB.out) hx
      subst e1
      have HX2 : Hid (X ++ [⟨kd, x⟩] = l ++ Hu.mk kd (ts.take (k + 1))) := hid (by rw [HX.out, mk_take hx, List.append_assoc])
      have hXl : X.length < 5864062014800 := by
        rw [HX.out, List.length_append, Hu.mk_len, List.length_take]
        omega
      have i1 : (0 : Int) ≤ (k : Int) := by omega
      have i2 : (k : Int) < (n : Int) := by omega
      have hBw := Nat.le_trans hB HB.out.size
      have HBN := hid ((Below.refl wr.heap.size wr).alloc (Nat.le_refl _) (.cells #[.int .i64 kd, .string x] 50))
      have HB1 := hid (HB.out.alloc hBw (.cells #[.int .i64 kd, .string x] 50))
      have HW1 := hid (own_stays HW.out HBN.out)
      clear hx hb1
      go_wp2_with (at_builtin; refine wpList_append_row rfl _ _ rfl B _ X rfl HW1.out wr.heap.size kd x rfl (heap_alloc_new wr _) hXl (Nat.le_trans hBw HBN.out.size) ?_; intro v3 w3 hO3 hg3 hl3 hb3; have HO3 := hid hO3; have HB3 := hid (HB1.out.trans hb3); have HOO3 := hid (HOO.out.step HBN.out HSZ.out hg3 hl3); clear hO3 hg3 hl3 hb3)
      go_roundw
      case rel => exact ⟨k + 1, _, by omega, by go_num, HX2, HO3, HB3, HOO3⟩
      case measure => simp [intOf]; omega
    · obtain rfl : k = n := by omega
      have HE : Hid (X = l ++ Hu.mk kd ts) := hid (by rw [HX.out, List.take_of_length_le (by have := HN.out; omega)])
      go_wp2_with fail
      go_ret
      exact ⟨_, rfl, by rw [← HE.out]; exact HW.out, HB.out, HOO.out⟩

set_option maxHeartbeats 1000000 in
set_option maxRecDepth 100000 in
theorem rStated_any (p : Int) (n : Nat) (w : World) (hp : p < 9223372036854775807) (hp2 : -9223372036854775808 ≤ p) : Calls Tryz.prog 45 #[.int .i64 p, .int .i64 n] w fun e w' => e = .returned (.int .i64 (Hu.told p n)) ∧ w' = w := by
  by_cases h : 0 < n
  · have HE : Hid (Hu.told p n = p + 1) := hid (if_pos h)
    have i1 : IntKind.i64.wrap (p + 1) = p + 1 := wrapOk (by omega) (by omega)
    have i2 : (0 : Int) < (n : Int) := by omega
    rw [HE.out]
    go_enter Tryz.func45, Tryz.ntmps45
    go_wp2_with fail
    go_ret
    exact ⟨rfl, rfl⟩
  · have HE : Hid (Hu.told p n = p) := hid (if_neg h)
    have i2 : ¬ (0 : Int) < (n : Int) := by omega
    rw [HE.out]
    go_enter Tryz.func45, Tryz.ntmps45
    go_wp2_with fail
    go_ret
    exact ⟨rfl, rfl⟩

end Go.Proofs.YthnibchlgcgalaaGreatDoor
