/-
  The walks of the program's counted and Total.
-/
import Derived.Test.YtnbonghlmdnabaaDoorB4
import Derived.Test.YtnbonghlmdnabaaDoorShelf2
import Derived.Sort.Grow
import Derived.Lib.LaidTab
import Derived.Lib.ItoaLen
namespace Go.Proofs.YtnbonghlmdnabaaDoor.Sx
open Go.RowKit

def PowK (w : World) : Prop := Lib.TabIs Tryd.prog w "internal/strconv.uint64pow10" .u64 Lib.pow10Tab
theorem powGlobalK : Tryd.prog.globalNamed "internal/strconv.uint64pow10" = some 1 := by kernel_rfl
theorem PowK.same {w w' : World} (h : PowK w) (hb : w'.heap[1]? = w.heap[1]?) : PowK w' := by
  unfold PowK Lib.TabIs World.var? at h ⊢
  rw [powGlobalK] at h ⊢
  simp only [Option.bind_some] at h ⊢
  rw [hb]
  exact h
theorem PowK.lt {w : World} (h : PowK w) : 1 < w.heap.size := by
  unfold PowK Lib.TabIs World.var? at h
  rw [powGlobalK] at h
  simp only [Option.bind_some] at h
  rcases Nat.lt_or_ge 1 w.heap.size with h' | h'
  · exact h'
  · rw [Array.getElem?_eq_none h'] at h; cases h
theorem PowK.below {B : Nat} {w w' : World} (h : PowK w) (hb : Below B w w') (hB : w.heap.size ≤ B) : PowK w' := h.same (hb.block _ (Nat.lt_of_lt_of_le h.lt hB))
theorem PowK.later {w w' : World} (h : PowK w) (hb : Below w.heap.size w w') : PowK w' := h.below hb (Nat.le_refl _)
theorem below_growK (w : World) (os : Array Obj) (k : Nat) : Below w.heap.size w (Go.Sort.grow (w.drewN k) os) :=
  ⟨rfl, rfl, rfl, by show w.heap.size ≤ (w.heap ++ os).size; rw [Array.size_append]; omega, fun j hj => by
    show (w.heap ++ os)[j]? = w.heap[j]?
    rw [Array.getElem?_append_left hj]⟩
theorem itoaK_any (n : Int) (w : World) (hp : PowK w) (h0 : -9223372036854775808 ≤ n) (h1 : n ≤ 9223372036854775807) : Calls Tryd.prog 15 #[.int .i64 n] w fun e w' => e = .returned (.string (bB (dec n))) ∧ Below w.heap.size w w' := by
  refine (Tryd.strconv_Itoa n h0 h1 w hp).mono ?_
  rintro e w' ⟨rfl, k, os, rfl⟩
  exact ⟨rfl, below_growK w os k⟩
theorem dec_len {n : Int} (h0 : -9223372036854775808 ≤ n) (h1 : n ≤ 9223372036854775807) : (dec n).length ≤ 21 := Lib.itoa_length_le n h0 h1
theorem add_data (x y : ByteArray) : (x ++ y).data.toList = x.data.toList ++ y.data.toList := by simp
theorem add_size (x y : ByteArray) : (x ++ y).size = x.size + y.size := by rw [← dsize, add_data, List.length_append, dsize, dsize]
theorem cnt_one (D thing told : ByteArray) (h : D.data.toList = dec 1) : D ++ ⟨#[32]⟩ ++ thing ++ told = bB (cnt 1 thing.data.toList told.data.toList) := by
  apply ba_ext
  rw [bB_data, add_data, add_data, add_data, h]
  unfold cnt
  rw [if_pos rfl]
theorem cnt_more {n : Int} (D thing told : ByteArray) (h : D.data.toList = dec n) (hn : n ≠ 1) : D ++ ⟨#[32]⟩ ++ (thing ++ ⟨#[115]⟩) ++ told = bB (cnt n thing.data.toList told.data.toList) := by
  apply ba_ext
  rw [bB_data, add_data, add_data, add_data, add_data, h]
  unfold cnt
  rw [if_neg hn]
theorem cnt_len {n : Int} (x y : Bs) (h0 : -9223372036854775808 ≤ n) (h1 : n ≤ 9223372036854775807) : (cnt n x y).length ≤ x.length + y.length + 23 := by
  have := dec_len h0 h1
  unfold cnt
  rw [List.length_append, List.length_append, List.length_append]
  split
  · simp; omega
  · rw [List.length_append]; simp; omega
set_option maxHeartbeats 1000000 in
theorem counted_any (n : Int) (thing told : ByteArray) (w : World) (hp : PowK w) (h0 : -9223372036854775808 ≤ n) (h1 : n ≤ 9223372036854775807) (ht : thing.size ≤ 1000) (hd : told.size ≤ 1000) :
    Calls Tryd.prog 42 #[.int .i64 n, .string thing, .string told] w fun e w' => e = .returned (.string (bB (cnt n thing.data.toList told.data.toList))) ∧ Below w.heap.size w w' := by
  have HI := hid (itoaK_any n w hp h0 h1)
  have hl : (bB (dec n)).size ≤ 21 := by rw [bB_size]; exact dec_len h0 h1
  have HD : Hid ((bB (dec n)).data.toList = dec n) := hid (bB_data _)
  by_cases hn : n = 1
  · subst hn
    have HE := hid (cnt_one _ thing told HD.out)
    rw [← HE.out]
    clear HE HD
    generalize bB (dec 1) = D at HI hl ⊢
    go_enter Tryd.func42, Tryd.ntmps42
    go_wp2_with fail
    refine HI.out.mono ?_
    rintro e w1 ⟨rfl, hb⟩
    have HB := hid hb
    clear hb
    go_wp2_with fail
    go_ret
    exact ⟨rfl, HB.out⟩
  · have HE := hid (cnt_more _ thing told HD.out hn)
    rw [← HE.out]
    have e1 : (n == 1) = false := zne hn
    have e2 : (n != 1) = true := by rw [bne, e1]; rfl
    clear HE HD hn
    generalize bB (dec n) = D at HI hl ⊢
    go_enter Tryd.func42, Tryd.ntmps42
    go_wp2_with fail
    refine HI.out.mono ?_
    rintro e w1 ⟨rfl, hb⟩
    have HB := hid hb
    clear hb
    go_wp2_with fail
    go_ret
    exact ⟨rfl, HB.out⟩
/-- Total's answer -/
def totS (l : List Ct) : ByteArray := if okL l = true then bB (total l) else ⟨#[]⟩
theorem tot_no {l : List Ct} (h : okL l = false) : totS l = ⟨#[]⟩ := by unfold totS; rw [h]; rfl
theorem tot_yes {l : List Ct} (h : okL l = true) : totS l = bB (total l) := by unfold totS; rw [h]; rfl
theorem one_new (w : World) (A : Obj) : Below w.heap.size w (w.alloc A) ∧ (w.alloc A).heap[w.heap.size]? = some A := ⟨(Below.refl _ _).alloc (Nat.le_refl _) _, heap_alloc_new w A⟩
theorem total_yes_yes {l : List Ct} {C0 C1 C2 : ByteArray} (hy : okL l = true) (_h0 : C0 = bB (cnt l.length tFile tChanged)) (_h1 : C1 = bB (cnt (sumA l) tIns tPlus)) (_h2 : C2 = bB (cnt (sumD l) tDel tMinus)) (ha :  0 < sumA l) (hd :  0 < sumD l) : (((⟨#[32]⟩ ++ C0) ++ (⟨#[44, 32]⟩ ++ C1)) ++ (⟨#[44, 32]⟩ ++ C2)) ++ ⟨#[10]⟩ = totS l := by
  rw [tot_yes hy]
  apply ba_ext
  rw [bB_data]
  unfold total
  rw [if_pos ha, if_pos hd]
  subst _h0 _h1 _h2
  simp [bB]
theorem total_yes_no {l : List Ct} {C0 C1 C2 : ByteArray} (hy : okL l = true) (_h0 : C0 = bB (cnt l.length tFile tChanged)) (_h1 : C1 = bB (cnt (sumA l) tIns tPlus)) (_h2 : C2 = bB (cnt (sumD l) tDel tMinus)) (ha :  0 < sumA l) (hd : ¬ 0 < sumD l) : ((⟨#[32]⟩ ++ C0) ++ (⟨#[44, 32]⟩ ++ C1)) ++ ⟨#[10]⟩ = totS l := by
  rw [tot_yes hy]
  apply ba_ext
  rw [bB_data]
  unfold total
  rw [if_pos ha, if_neg hd]
  subst _h0 _h1 _h2
  simp [bB]
theorem total_no_yes {l : List Ct} {C0 C1 C2 : ByteArray} (hy : okL l = true) (_h0 : C0 = bB (cnt l.length tFile tChanged)) (_h1 : C1 = bB (cnt (sumA l) tIns tPlus)) (_h2 : C2 = bB (cnt (sumD l) tDel tMinus)) (ha : ¬ 0 < sumA l) (hd :  0 < sumD l) : ((⟨#[32]⟩ ++ C0) ++ (⟨#[44, 32]⟩ ++ C2)) ++ ⟨#[10]⟩ = totS l := by
  rw [tot_yes hy]
  apply ba_ext
  rw [bB_data]
  unfold total
  rw [if_neg ha, if_pos hd]
  subst _h0 _h1 _h2
  simp [bB]
theorem total_no_no {l : List Ct} {C0 C1 C2 : ByteArray} (hy : okL l = true) (_h0 : C0 = bB (cnt l.length tFile tChanged)) (_h1 : C1 = bB (cnt (sumA l) tIns tPlus)) (_h2 : C2 = bB (cnt (sumD l) tDel tMinus)) (ha : ¬ 0 < sumA l) (hd : ¬ 0 < sumD l) : (⟨#[32]⟩ ++ C0) ++ ⟨#[10]⟩ = totS l := by
  rw [tot_yes hy]
  apply ba_ext
  rw [bB_data]
  unfold total
  rw [if_neg ha, if_neg hd]
  subst _h0 _h1 _h2
  simp [bB]
set_option maxHeartbeats 4000000 in
theorem total_any {w : World} {v : Value} {l : List Ct} (hr : RdK w v l) (hn : l.length ≤ 1099511627776) (hp : PowK w) :
    Calls Tryd.prog 23 #[v] w fun e w' => e = .returned (.tuple #[.string (totS l), allE l]) ∧ Below w.heap.size w w' := by
  have HI := hid (inAll_any hr hn)
  obtain ⟨a, c, rfl⟩ := hr.shape
  cases hok : okL l with
  | false =>
    have HZ := hid (all_no hok)
    have HT := hid (tot_no hok)
    rw [HZ.out.1, HZ.out.2] at HI
    rw [HZ.out.2, HT.out]
    obtain ⟨n, hnn⟩ : ∃ n, n = l.length := ⟨_, rfl⟩
    rw [← hnn] at HI ⊢
    clear hok HZ HT hr hnn hp
    go_enter Tryd.func23, Tryd.ntmps23
    go_wp2_with fail
    refine HI.out.mono ?_
    rintro e w1 ⟨rfl, hb1⟩
    have HB := hid (hb1.trans ((one_new w1 (ctO ⟨#[]⟩ 0 0)).1.mono hb1.size))
    clear hb1
    go_wp2_with fail
    go_ret2
    exact ⟨rfl, HB.out⟩
  | true =>
    have HZ := hid (all_yes hok)
    rw [HZ.out.1, HZ.out.2] at HI
    rw [HZ.out.2]
    have hb := (okL_iff.1 hok)
    have hA := okN_iff.1 hb.2.2.1
    have hD := okN_iff.1 hb.2.2.2
    have hln : (l.length : Int) ≤ 65536 := by have := hb.1; omega
    have HC0 := hid (fun w' (h : PowK w') => counted_any (l.length : Int) ⟨#[102, 105, 108, 101]⟩ ⟨#[32, 99, 104, 97, 110, 103, 101, 100]⟩ w' h (by omega) (by omega) (by decide) (by decide))
    have HC1 := hid (fun w' (h : PowK w') => counted_any (sumA l) ⟨#[105, 110, 115, 101, 114, 116, 105, 111, 110]⟩ ⟨#[40, 43, 41]⟩ w' h (by omega) (by omega) (by decide) (by decide))
    have HC2 := hid (fun w' (h : PowK w') => counted_any (sumD l) ⟨#[100, 101, 108, 101, 116, 105, 111, 110]⟩ ⟨#[40, 45, 41]⟩ w' h (by omega) (by omega) (by decide) (by decide))
    obtain ⟨C0, hC0⟩ : ∃ C, C = bB (cnt (l.length : Int) tFile tChanged) := ⟨_, rfl⟩
    obtain ⟨C1, hC1⟩ : ∃ C, C = bB (cnt (sumA l) tIns tPlus) := ⟨_, rfl⟩
    obtain ⟨C2, hC2⟩ : ∃ C, C = bB (cnt (sumD l) tDel tMinus) := ⟨_, rfl⟩
    have s0 : C0.size ≤ 100 := by rw [hC0, bB_size]; have := cnt_len (n := (l.length : Int)) tFile tChanged (by omega) (by omega); exact Nat.le_trans this (by decide)
    have s1 : C1.size ≤ 100 := by rw [hC1, bB_size]; have := cnt_len (n := sumA l) tIns tPlus (by omega) (by omega); exact Nat.le_trans this (by decide)
    have s2 : C2.size ≤ 100 := by rw [hC2, bB_size]; have := cnt_len (n := sumD l) tDel tMinus (by omega) (by omega); exact Nat.le_trans this (by decide)
    have HC0' : Hid (∀ w', PowK w' → Calls Tryd.prog 42 #[.int .i64 (l.length : Int), .string ⟨#[102, 105, 108, 101]⟩, .string ⟨#[32, 99, 104, 97, 110, 103, 101, 100]⟩] w' fun e w2 => e = .returned (.string C0) ∧ Below w'.heap.size w' w2) := hid (by rw [hC0]; exact HC0.out)
    have HC1' : Hid (∀ w', PowK w' → Calls Tryd.prog 42 #[.int .i64 (sumA l), .string ⟨#[105, 110, 115, 101, 114, 116, 105, 111, 110]⟩, .string ⟨#[40, 43, 41]⟩] w' fun e w2 => e = .returned (.string C1) ∧ Below w'.heap.size w' w2) := hid (by rw [hC1]; exact HC1.out)
    have HC2' : Hid (∀ w', PowK w' → Calls Tryd.prog 42 #[.int .i64 (sumD l), .string ⟨#[100, 101, 108, 101, 116, 105, 111, 110]⟩, .string ⟨#[40, 45, 41]⟩] w' fun e w2 => e = .returned (.string C2) ∧ Below w'.heap.size w' w2) := hid (by rw [hC2]; exact HC2.out)
    have HT1 := hid (fun h1 h2 => total_yes_yes hok hC0 hC1 hC2 h1 h2)
    have HT2 := hid (fun h1 h2 => total_yes_no hok hC0 hC1 hC2 h1 h2)
    have HT3 := hid (fun h1 h2 => total_no_yes hok hC0 hC1 hC2 h1 h2)
    have HT4 := hid (fun h1 h2 => total_no_no hok hC0 hC1 hC2 h1 h2)
    have HP := hid hp
    obtain ⟨n, hnn⟩ : ∃ n, n = l.length := ⟨_, rfl⟩
    rw [← hnn] at HI HC0' hln ⊢
    clear hok HZ hr hnn hp hb HC0 HC1 HC2 hC0 hC1 hC2
    generalize sumA l = A at *
    generalize sumD l = D at *
    obtain ⟨T, hT⟩ : ∃ T, T = totS l := ⟨_, rfl⟩
    rw [← hT] at HT1 HT2 HT3 HT4 ⊢
    clear hT
    by_cases pa : 0 < A
    · by_cases pd : 0 < D
      · have HT := hid (HT1.out pa pd)
        rw [← HT.out]
        clear HT HT1 HT2 HT3 HT4
        go_enter Tryd.func23, Tryd.ntmps23
        go_wp2_with fail
        refine HI.out.mono ?_
        rintro e w1 ⟨rfl, hb1⟩
        have hn1 := one_new w1 (ctO ⟨#[]⟩ A D)
        have HB1 := hid (hb1.trans (hn1.1.mono hb1.size))
        have HP1 := hid (HP.out.later HB1.out)
        have HG1 := hid hn1.2
        clear hb1 hn1 HI
        go_wp2_with fail
        obtain ⟨G, hG⟩ : ∃ G, G = w1.heap.size := ⟨_, rfl⟩
        rw [← hG] at HG1 ⊢
        clear hG
        generalize w1.alloc (.cells #[.string ⟨#[]⟩, .int .i64 A, .int .i64 D] 38) = w2 at HB1 HP1 HG1 ⊢
        refine (HC0'.out _ HP1.out).mono ?_
        rintro e w3 ⟨rfl, hb3⟩
        have HB3 := hid (HB1.out.trans (hb3.mono HB1.out.size))
        have HP3 := hid (HP1.out.later hb3)
        have hg3 := (hb3.block G (lt_of_heap HG1.out)).trans HG1.out
        have HG3 := hid hg3
        have y1 : w3.cell? ⟨G, 1, none⟩ = some (.int .i64 A) := cell_of_blk hg3 1
        have y2 : w3.cell? ⟨G, 2, none⟩ = some (.int .i64 D) := cell_of_blk hg3 2
        clear hb3 hg3 HB1 HP1 HG1
        go_wp2_with fail
        refine (HC1'.out _ HP3.out).mono ?_
        rintro e w4 ⟨rfl, hb4⟩
        have HB4 := hid (HB3.out.trans (hb4.mono HB3.out.size))
        have HP4 := hid (HP3.out.later hb4)
        have hg4 := (hb4.block G (lt_of_heap HG3.out)).trans HG3.out
        have HG4 := hid hg4
        have z2 : w4.cell? ⟨G, 2, none⟩ = some (.int .i64 D) := cell_of_blk hg4 2
        clear hb4 hg4 y1 y2
        go_wp2_with fail
        refine (HC2'.out _ HP4.out).mono ?_
        rintro e w5 ⟨rfl, hb5⟩
        have HB5 := hid (HB4.out.trans (hb5.mono HB4.out.size))
        clear hb5
        go_wp2_with fail
        go_ret2
        exact ⟨rfl, HB5.out⟩
      · have HT := hid (HT2.out pa pd)
        rw [← HT.out]
        clear HT HT1 HT2 HT3 HT4
        go_enter Tryd.func23, Tryd.ntmps23
        go_wp2_with fail
        refine HI.out.mono ?_
        rintro e w1 ⟨rfl, hb1⟩
        have hn1 := one_new w1 (ctO ⟨#[]⟩ A D)
        have HB1 := hid (hb1.trans (hn1.1.mono hb1.size))
        have HP1 := hid (HP.out.later HB1.out)
        have HG1 := hid hn1.2
        clear hb1 hn1 HI
        go_wp2_with fail
        obtain ⟨G, hG⟩ : ∃ G, G = w1.heap.size := ⟨_, rfl⟩
        rw [← hG] at HG1 ⊢
        clear hG
        generalize w1.alloc (.cells #[.string ⟨#[]⟩, .int .i64 A, .int .i64 D] 38) = w2 at HB1 HP1 HG1 ⊢
        refine (HC0'.out _ HP1.out).mono ?_
        rintro e w3 ⟨rfl, hb3⟩
        have HB3 := hid (HB1.out.trans (hb3.mono HB1.out.size))
        have HP3 := hid (HP1.out.later hb3)
        have hg3 := (hb3.block G (lt_of_heap HG1.out)).trans HG1.out
        have HG3 := hid hg3
        have y1 : w3.cell? ⟨G, 1, none⟩ = some (.int .i64 A) := cell_of_blk hg3 1
        have y2 : w3.cell? ⟨G, 2, none⟩ = some (.int .i64 D) := cell_of_blk hg3 2
        clear hb3 hg3 HB1 HP1 HG1
        go_wp2_with fail
        refine (HC1'.out _ HP3.out).mono ?_
        rintro e w4 ⟨rfl, hb4⟩
        have HB4 := hid (HB3.out.trans (hb4.mono HB3.out.size))
        have HP4 := hid (HP3.out.later hb4)
        have hg4 := (hb4.block G (lt_of_heap HG3.out)).trans HG3.out
        have HG4 := hid hg4
        have z2 : w4.cell? ⟨G, 2, none⟩ = some (.int .i64 D) := cell_of_blk hg4 2
        clear hb4 hg4 y1 y2
        go_wp2_with fail
        go_ret2
        exact ⟨rfl, HB4.out⟩
    · by_cases pd : 0 < D
      · have HT := hid (HT3.out pa pd)
        rw [← HT.out]
        clear HT HT1 HT2 HT3 HT4
        go_enter Tryd.func23, Tryd.ntmps23
        go_wp2_with fail
        refine HI.out.mono ?_
        rintro e w1 ⟨rfl, hb1⟩
        have hn1 := one_new w1 (ctO ⟨#[]⟩ A D)
        have HB1 := hid (hb1.trans (hn1.1.mono hb1.size))
        have HP1 := hid (HP.out.later HB1.out)
        have HG1 := hid hn1.2
        clear hb1 hn1 HI
        go_wp2_with fail
        obtain ⟨G, hG⟩ : ∃ G, G = w1.heap.size := ⟨_, rfl⟩
        rw [← hG] at HG1 ⊢
        clear hG
        generalize w1.alloc (.cells #[.string ⟨#[]⟩, .int .i64 A, .int .i64 D] 38) = w2 at HB1 HP1 HG1 ⊢
        refine (HC0'.out _ HP1.out).mono ?_
        rintro e w3 ⟨rfl, hb3⟩
        have HB3 := hid (HB1.out.trans (hb3.mono HB1.out.size))
        have HP3 := hid (HP1.out.later hb3)
        have hg3 := (hb3.block G (lt_of_heap HG1.out)).trans HG1.out
        have HG3 := hid hg3
        have y1 : w3.cell? ⟨G, 1, none⟩ = some (.int .i64 A) := cell_of_blk hg3 1
        have y2 : w3.cell? ⟨G, 2, none⟩ = some (.int .i64 D) := cell_of_blk hg3 2
        clear hb3 hg3 HB1 HP1 HG1
        go_wp2_with fail
        refine (HC2'.out _ HP3.out).mono ?_
        rintro e w5 ⟨rfl, hb5⟩
        have HB5 := hid (HB3.out.trans (hb5.mono HB3.out.size))
        clear hb5
        go_wp2_with fail
        go_ret2
        exact ⟨rfl, HB5.out⟩
      · have HT := hid (HT4.out pa pd)
        rw [← HT.out]
        clear HT HT1 HT2 HT3 HT4
        go_enter Tryd.func23, Tryd.ntmps23
        go_wp2_with fail
        refine HI.out.mono ?_
        rintro e w1 ⟨rfl, hb1⟩
        have hn1 := one_new w1 (ctO ⟨#[]⟩ A D)
        have HB1 := hid (hb1.trans (hn1.1.mono hb1.size))
        have HP1 := hid (HP.out.later HB1.out)
        have HG1 := hid hn1.2
        clear hb1 hn1 HI
        go_wp2_with fail
        obtain ⟨G, hG⟩ : ∃ G, G = w1.heap.size := ⟨_, rfl⟩
        rw [← hG] at HG1 ⊢
        clear hG
        generalize w1.alloc (.cells #[.string ⟨#[]⟩, .int .i64 A, .int .i64 D] 38) = w2 at HB1 HP1 HG1 ⊢
        refine (HC0'.out _ HP1.out).mono ?_
        rintro e w3 ⟨rfl, hb3⟩
        have HB3 := hid (HB1.out.trans (hb3.mono HB1.out.size))
        have HP3 := hid (HP1.out.later hb3)
        have hg3 := (hb3.block G (lt_of_heap HG1.out)).trans HG1.out
        have HG3 := hid hg3
        have y1 : w3.cell? ⟨G, 1, none⟩ = some (.int .i64 A) := cell_of_blk hg3 1
        have y2 : w3.cell? ⟨G, 2, none⟩ = some (.int .i64 D) := cell_of_blk hg3 2
        clear hb3 hg3 HB1 HP1 HG1
        go_wp2_with fail
        go_ret2
        exact ⟨rfl, HB3.out⟩
end Go.Proofs.YtnbonghlmdnabaaDoor.Sx
