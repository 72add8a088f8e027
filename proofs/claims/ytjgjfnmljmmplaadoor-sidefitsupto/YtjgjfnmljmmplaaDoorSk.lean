/-
  The program's pages (layer 15): newPage, markOf, beside, change.
-/
import Derived.Test.YtjgjfnmljmmplaaDoorSj
namespace Go.Proofs.YtjgjfnmljmmplaaDoor
namespace Sy
open Go.RowKit

def dat (x : ByteArray) : Sd.Bs := x.data.toList
theorem bes_one (half sec : Nat) : ∀ (k : Nat) (L M : List Sd.Bs) (a b : Sd.Bs), L[k]? = some a → M[k]? = some b → Sd.bes half sec (L.take (k + 1)) (M.take (k + 1)) = Sd.bes half sec (L.take k) (M.take k) ++ Sd.rowT half sec a (Sd.mkT a b) b
  | 0, x :: L, y :: M, a, b, h1, h2 => by
    cases h1; cases h2
    simp [Sd.bes]
  | k + 1, x :: L, y :: M, a, b, h1, h2 => by
    have := bes_one half sec k L M a b (by simpa using h1) (by simpa using h2)
    simp only [List.take_succ_cons, Sd.bes] at this ⊢
    rw [this, List.append_assoc]
theorem bes_len (half sec : Nat) (hh : half ≤ 4096) : ∀ (L M : List Sd.Bs), (Sd.bes half sec L M).length ≤ 8196 * L.length
  | [], M => by simp [Sd.bes]
  | x :: L, [] => by simp [Sd.bes]
  | x :: L, y :: M => by
    have h1 := bes_len half sec hh L M
    have h2 := Sd.rowT_len half sec x (Sd.mkT x y) y
    simp only [Sd.bes, List.length_append, List.length_cons]
    omega
theorem olds_one (half sec : Nat) {L : List Sd.Bs} {k : Nat} {a : Sd.Bs} (h : L[k]? = some a) : Sd.olds half sec (L.take (k + 1)) = Sd.olds half sec (L.take k) ++ Sd.rowT half sec a 60 [] := by
  unfold Sd.olds
  rw [List.take_add_one, h, List.flatMap_append]
  simp
theorem news_one (half sec : Nat) {L : List Sd.Bs} {k : Nat} {a : Sd.Bs} (h : L[k]? = some a) : Sd.news half sec (L.take (k + 1)) = Sd.news half sec (L.take k) ++ Sd.rowT half sec [] 62 a := by
  unfold Sd.news
  rw [List.take_add_one, h, List.flatMap_append]
  simp
theorem olds_len (half sec : Nat) (hh : half ≤ 4096) : ∀ L : List Sd.Bs, (Sd.olds half sec L).length ≤ 8196 * L.length
  | [] => by simp [Sd.olds]
  | x :: L => by
    have h1 := olds_len half sec hh L
    have h2 := Sd.rowT_len half sec x 60 []
    unfold Sd.olds at h1 ⊢
    rw [List.flatMap_cons, List.length_append, List.length_cons]
    omega
theorem news_len (half sec : Nat) (hh : half ≤ 4096) : ∀ L : List Sd.Bs, (Sd.news half sec L).length ≤ 8196 * L.length
  | [] => by simp [Sd.news]
  | x :: L => by
    have h1 := news_len half sec hh L
    have h2 := Sd.rowT_len half sec [] 62 x
    unfold Sd.news at h1 ⊢
    rw [List.flatMap_cons, List.length_append, List.length_cons]
    omega
theorem eq_yes (x : ByteArray) : (x.toList == x.toList) = true := beq_self_eq_true _
theorem eq_no {x y : ByteArray} (h : x ≠ y) : (x.toList == y.toList) = false := by
  rw [ByteArray.toList_eq, ByteArray.toList_eq, beq_eq_false_iff_ne]
  exact fun e => h (ba_ext e)
set_option maxHeartbeats 2000000 in
theorem markOf_any (x y : ByteArray) (w : World) (hx : x.size ≤ 1099511627776) (hy : y.size ≤ 1099511627776) :
    Calls Tryd.prog 43 #[.string x, .string y] w fun e w' => e = .returned (.int .u8 (Sd.mkT (dat x) (dat y)).toNat) ∧ w' = w := by
  have HX := hid (fun w1 => Cx.bare_any x w1 (by unfold maxLen; omega))
  have HY := hid (fun w1 => Cx.bare_any y w1 (by unfold maxLen; omega))
  have HW := hid (fun w1 => Cx.whole_any y w1 (by unfold maxLen; omega))
  rw [Sd.mkT_prog]
  by_cases h : x = y
  · subst h
    have t1 := eq_yes x
    rw [if_pos rfl]
    go_enter Tryd.func43, Tryd.ntmps43
    go_wp2_with fail
    go_ret
    exact ⟨rfl, rfl⟩
  · have t1 := eq_no h
    rw [if_neg (show ¬ (dat x = dat y) from fun e => h (ba_ext e))]
    by_cases hb : Sd.bare (dat x) = Sd.bare (dat y)
    · have hbb : Cx.bareB x = Cx.bareB y := ba_ext (by rw [bare_data, bare_data]; exact hb)
      rw [if_neg (fun e => e hb)]
      rw [hbb] at HX
      have t2 := eq_yes (Cx.bareB y)
      generalize Cx.bareB y = Z at HX HY t2
      have hwe : Pl.wh y.data.toList = Sd.whole (dat y) := rfl
      rw [hwe] at HW
      clear hbb hb h hwe
      cases hw : Sd.whole (dat y) with
      | true =>
        rw [hw] at HW
        rw [if_pos rfl]
        clear hw
        go_enter Tryd.func43, Tryd.ntmps43
        go_wp2_with fail
        refine (HX.out _).mono ?_
        rintro e w1 ⟨rfl, rfl⟩
        go_wp2_with fail
        refine (HY.out _).mono ?_
        rintro e w2 ⟨rfl, rfl⟩
        go_wp2_with fail
        refine (HW.out _).mono ?_
        rintro e w3 ⟨rfl, rfl⟩
        go_wp2_with fail
        go_ret
        exact ⟨rfl, rfl⟩
      | false =>
        rw [hw] at HW
        rw [if_neg Bool.false_ne_true]
        clear hw
        go_enter Tryd.func43, Tryd.ntmps43
        go_wp2_with fail
        refine (HX.out _).mono ?_
        rintro e w1 ⟨rfl, rfl⟩
        go_wp2_with fail
        refine (HY.out _).mono ?_
        rintro e w2 ⟨rfl, rfl⟩
        go_wp2_with fail
        refine (HW.out _).mono ?_
        rintro e w3 ⟨rfl, rfl⟩
        go_wp2_with fail
        go_ret
        exact ⟨rfl, rfl⟩
    · have t2 : ((Cx.bareB x).toList == (Cx.bareB y).toList) = false := eq_no (fun e => hb (by rw [show Sd.bare (dat x) = (Cx.bareB x).data.toList from (bare_data x).symm, show Sd.bare (dat y) = (Cx.bareB y).data.toList from (bare_data y).symm, e]))
      rw [if_pos hb]
      clear hb h HW
      go_enter Tryd.func43, Tryd.ntmps43
      go_wp2_with fail
      refine (HX.out _).mono ?_
      rintro e w1 ⟨rfl, rfl⟩
      go_wp2_with fail
      refine (HY.out _).mono ?_
      rintro e w2 ⟨rfl, rfl⟩
      go_wp2_with fail
      go_ret
      exact ⟨rfl, rfl⟩
set_option maxHeartbeats 4000000 in
set_option maxRecDepth 100000 in
theorem newPage_any (half sec : Nat) (w : World) (hh : half ≤ 4096):
    Calls Tryd.prog 19 #[.int .i64 (half : Int), .int .i64 (sec : Int)] w fun e w' => ∃ b, e = .returned (.pointer (some ⟨b, 0, none⟩)) ∧ w.heap.size ≤ b ∧ Pg w.heap.size b half sec [] w' ∧ Below w.heap.size w w' := by
  have HR := hid (fun w1 => blanks_any (half + 1) w1 (by omega))
  have i1 : IntKind.i64.wrap ((half : Int) + 1) = ((half + 1 : Nat) : Int) := by rw [wrapB (by omega) (by omega)]; omega
  have HPR : Hid (∀ (w1 : World), w.heap.size ≤ w1.heap.size → Pg w.heap.size w1.heap.size half sec [] (w1.alloc (.cells #[.pointer none, .slice none 0 0, .int .i64 (half : Int), .int .i64 (sec : Int), .string (bB (Sd.blk (half + 1)))] 59))) := hid (fun w1 hb => ⟨hb, .pointer none, .slice none 0 0, heap_alloc_new w1 _, .inl rfl, World.ownsRow_nil _ _ _ _⟩)
  generalize bB (Sd.blk (half + 1)) = BL at HR HPR
  clear hh
  go_enter Tryd.func19, Tryd.ntmps19
  go_wp2_with fail
  refine (HR.out _).mono ?_
  rintro e w1 ⟨rfl, hb1⟩
  have HB1 := hid hb1
  clear hb1
  go_wp2_with fail
  go_ret
  exact ⟨w1.heap.size, rfl, HB1.out.size, HPR.out w1 HB1.out.size, HB1.out.alloc HB1.out.size _⟩
set_option maxHeartbeats 4000000 in
set_option maxRecDepth 100000 in
theorem beside_any {B b half sec : Nat} {l : Sd.Bs} {w : World} {va vb : Value} {A M : List ByteArray} (hh : half ≤ 4096) (h : Pg B b half sec l w) (hB : B ≤ w.heap.size) (ha : ∀ w', Below B w w' → RdT w' va A) (hb : ∀ w', Below B w w' → RdT w' vb M) (hn : M.length = A.length) (hx : ∀ x ∈ A, x.size ≤ 1099511627776) (hy : ∀ y ∈ M, y.size ≤ 1099511627776) (hl : l.length + 8196 * A.length ≤ 100000000000000) :
    Calls Tryd.prog 20 #[.pointer (some ⟨b, 0, none⟩), va, vb] w fun e w' => e = .returned (.tuple #[]) ∧ Pg B b half sec (l ++ Sd.bes half sec (A.map dat) (M.map dat)) w' ∧ Bx.Fr B b w w' := by
  obtain ⟨aa, ca, rfl⟩ := (ha w (Below.refl _ _)).shape
  obtain ⟨ab, cb, rfl⟩ := (hb w (Below.refl _ _)).shape
  obtain ⟨N, hN⟩ : ∃ N, N = A.length := ⟨_, rfl⟩
  have HRA : Hid (∀ w', Below B w w' → RdT w' (.slice aa N ca) A) := hid (fun w' hw => by rw [hN]; exact ha w' hw)
  have HRB : Hid (∀ w', Below B w w' → RdT w' (.slice ab N cb) M) := hid (fun w' hw => by rw [hN, ← hn]; exact hb w' hw)
  have HP0 := hid h
  have HNA := hid hN
  have HNM : Hid (N = M.length) := hid (by rw [hN, hn])
  have HX := hid hx
  have HY := hid hy
  have HL := hid hl
  have hNl : N ≤ 100000000000000 := by omega
  rw [hn, ← hN]
  clear ha hb hn hx hy hl h hN
  go_enter Tryd.func20, Tryd.ntmps20
  go_wp2_with fail
  go_loopw [10] (fun ii wr => ∃ k : Nat, ii = .int .i64 k ∧ k ≤ N ∧ Hid (Pg B b half sec (l ++ Sd.bes half sec ((A.map dat).take k) ((M.map dat).take k)) wr) ∧ Hid (Bx.Fr B b w wr)) (fun ii _ => N - (intOf ii).toNat)
  case atStart => exact ⟨0, rfl, Nat.zero_le _, hid (by rw [List.take_zero, List.take_zero, show Sd.bes half sec [] [] = [] from rfl, List.append_nil]; exact HP0.out), hid (Bx.Fr.refl _ _ _)⟩
  case round =>
    obtain ⟨k, rfl, hk, HP, HF⟩ := hrel
    by_cases hlt : k < N
    · obtain ⟨x, hxk⟩ : ∃ x, A[k]? = some x := ⟨_, List.getElem?_eq_getElem (by have := HNA.out; omega)⟩
      obtain ⟨y, hyk⟩ : ∃ y, M[k]? = some y := ⟨_, List.getElem?_eq_getElem (by have := HNM.out; omega)⟩
      obtain ⟨b1, o1, e1, hb1, d1⟩ := rdT_at (HRA.out wr HF.out.below) hxk
      obtain ⟨b2, o2, e2, hb2, d2⟩ := rdT_at (HRB.out wr HF.out.below) hyk
      subst e1
      subst e2
      have HMK := hid (fun w1 => markOf_any x y w1 (HX.out x (List.mem_of_getElem? hxk)) (HY.out y (List.mem_of_getElem? hyk)))
      have hbl := bes_len half sec hh ((A.map dat).take k) ((M.map dat).take k)
      have HON : Hid (Sd.bes half sec ((A.map dat).take (k + 1)) ((M.map dat).take (k + 1)) = Sd.bes half sec ((A.map dat).take k) ((M.map dat).take k) ++ Sd.rowT half sec (dat x) (Sd.mkT (dat x) (dat y)) (dat y)) := hid (bes_one half sec k _ _ _ _ (by rw [List.getElem?_map, hxk]; rfl) (by rw [List.getElem?_map, hyk]; rfl))
      generalize Sd.mkT (dat x) (dat y) = mk at HMK HON
      obtain ⟨P, hP⟩ : ∃ P, P = l ++ Sd.bes half sec ((A.map dat).take k) ((M.map dat).take k) := ⟨_, rfl⟩
      have hPl : P.length ≤ 100000000000000 := by
        have h9 : ((A.map dat).take k).length ≤ A.length := by simp; omega
        have := HL.out
        rw [hP, List.length_append]
        omega
      have HPP := hid hP
      rw [← hP] at HP
      have HRO := hid (fun w1 (h1 : Pg B b half sec P w1) (h2 : B ≤ w1.heap.size) => row_any x y mk hh h1 h2 (HX.out x (List.mem_of_getElem? hxk)) (HY.out y (List.mem_of_getElem? hyk)) hPl)
      have i1 : (0 : Int) ≤ (k : Int) := by omega
      have i2 : (k : Int) < (N : Int) := by omega
      have i3 : IntKind.i64.wrap ((k : Int) + 1) = (k : Int) + 1 := wrapB (by omega) (by omega)
      have D2 := hid d2
      have HLB := hid hb2
      clear hxk hyk hbl hP hPl hb1
      go_wp2_with fail
      refine wp_region_qtailY 12 (by kernel_rfl) (by kernel_rfl) ?_
      simp only [List.take_succ_cons, List.take_zero, List.drop_succ_cons, List.drop_zero]
      repeat go_big_quiet_step (fail)
      go_big_quiet_want
      go_big_quiet_op
      refine ⟨_, HMK.out _, ?_⟩
      go_big_quiet_on
      repeat go_big_quiet_step (fail)
      refine wpQuiet_nil ?_
      have HP2 := hid (HP.out.below (below_drewN (Below.refl wr.heap.size wr) 1))
      have HD2 := hid (Nat.le_trans hB (HF.out.below.size))
      have HF2 := hid (HF.out.trans (Bx.Fr.of (b := b) (below_drewN (Below.refl wr.heap.size wr) 1) HD2.out))
      have HD3 : Hid (B ≤ (wr.drewN 1).heap.size) := HD2
      clear HP HF d1 d2 HMK HD2
      generalize wr.drewN 1 = wd at HP2 HF2 HD3 ⊢
      go_wp2_with fail
      refine (HRO.out wd HP2.out HD3.out).mono ?_
      rintro e w5 ⟨rfl, hp5, hf5⟩
      have HP5 := hid hp5
      have HF5 := hid (HF2.out.trans hf5)
      clear hp5 hf5 HP2 HF2 HRO
      go_wp2_with fail
      go_roundw
      case rel => exact ⟨k + 1, by go_num, by omega, hid (by rw [HON.out, ← List.append_assoc, ← HPP.out]; exact HP5.out), HF5⟩
      case measure => simp [intOf]; omega
    · obtain rfl : k = N := by omega
      have i2 : ¬ ((k : Int) < (k : Int)) := by omega
      have HE1 : Hid ((A.map dat).take k = A.map dat) := hid (List.take_of_length_le (by rw [List.length_map]; have := HNA.out; omega))
      have HE2 : Hid ((M.map dat).take k = M.map dat) := hid (List.take_of_length_le (by rw [List.length_map]; have := HNM.out; omega))
      rw [HE1.out, HE2.out] at HP
      go_wp2_with fail
      exact bodyPost_end (v := .tuple #[]) (results_none Tryd.results20 _ _ _) rfl ⟨rfl, HP.out, HF.out⟩
theorem run_minS (t : TypeId) (x y : Int) (w : World) : (Builtin.min_ #[3, 3] t #[.int .i64 x, .int .i64 y]).run Tryd.prog w = .ok (.int .i64 (min x y)) w := by
  rw [run_min_int2]
  congr 2
  by_cases h : y < x
  · rw [if_pos h]; omega
  · rw [if_neg h]; omega
theorem rdT_first {w : World} {a : Option Addr} {n c k : Nat} {l : List ByteArray} (h : RdT w (.slice a n c) l) (hn : n = l.length) (hk : k ≤ n) : RdT w (.slice a k c) (l.take k) := by
  subst hn
  have hl : (l.take k).length = k := by rw [List.length_take]; omega
  show RdX _ _ _ _
  rw [hl]
  rcases h with ⟨h0, a', c', hv⟩ | ⟨b, o, c', hv, hc, hb, hX⟩
  · have hk0 : k = 0 := by omega
    subst hk0
    exact .inl ⟨rfl, a, c, rfl⟩
  · cases hv
    exact .inr ⟨b, o, c, rfl, Nat.le_trans hk hc, hb, fun j u hj => hX j u (by
      unfold stC at hj ⊢
      rw [List.getElem?_map, List.getElem?_take] at hj
      rw [List.getElem?_map]
      split at hj
      · exact hj
      · cases hj)⟩
set_option maxHeartbeats 4000000 in
set_option maxRecDepth 100000 in
theorem change_any {B b half sec : Nat} {l : Sd.Bs} {w : World} {va vb : Value} {A M : List ByteArray} (hh : half ≤ 4096) (h : Pg B b half sec l w) (hB : B ≤ w.heap.size) (ha : ∀ w', Below B w w' → RdT w' va A) (hb : ∀ w', Below B w w' → RdT w' vb M) (hx : ∀ x ∈ A, x.size ≤ 1099511627776) (hy : ∀ y ∈ M, y.size ≤ 1099511627776) (hl : l.length + 8196 * (A.length + M.length) ≤ 100000000000000) :
    Calls Tryd.prog 21 #[.pointer (some ⟨b, 0, none⟩), va, vb] w fun e w' => e = .returned (.tuple #[]) ∧ Pg B b half sec (l ++ Sd.chg half sec (A.map dat) (M.map dat)) w' ∧ Bx.Fr B b w w' := by
  obtain ⟨aa, ca, rfl⟩ := (ha w (Below.refl _ _)).shape
  obtain ⟨ab, cb, rfl⟩ := (hb w (Below.refl _ _)).shape
  have hca := rd_cap (ha w (Below.refl _ _))
  have hcb := rd_cap (hb w (Below.refl _ _))
  obtain ⟨NA, hNA⟩ : ∃ NA, NA = A.length := ⟨_, rfl⟩
  obtain ⟨NM, hNM⟩ : ∃ NM, NM = M.length := ⟨_, rfl⟩
  obtain ⟨n, hn⟩ : ∃ n, n = min A.length M.length := ⟨_, rfl⟩
  have hch := Sd.bes_take half sec (A.map dat) (M.map dat) n (by rw [List.length_map, List.length_map]; exact hn)
  have hna : n ≤ NA := by omega
  have hnm : n ≤ NM := by omega
  have hmn : ∀ X : World, (Builtin.min_ #[3, 3] 3 #[.int .i64 (NA : Int), .int .i64 (NM : Int)]).run Tryd.prog X = .ok (.int .i64 (n : Int)) X := fun X => by rw [run_minS]; congr 2; omega
  have HCH := hid hch
  have HBS := hid (fun (w1 : World) (va vb : Value) (h1 : Pg B b half sec l w1) (h2 : B ≤ w1.heap.size) (h3 : ∀ w', Below B w1 w' → RdT w' va (A.take n)) (h4 : ∀ w', Below B w1 w' → RdT w' vb (M.take n)) => beside_any hh h1 h2 h3 h4 (by rw [List.length_take, List.length_take]; omega) (fun x hxx => hx x (List.mem_of_mem_take hxx)) (fun x hxx => hy x (List.mem_of_mem_take hxx)) (by rw [List.length_take]; omega))
  have HP := hid h
  rw [← hNA] at ha hca ⊢
  rw [← hNM] at hb hcb ⊢
  have i1 : (0 : Int) ≤ (n : Int) := by omega
  have i2 : (n : Int) ≤ (NA : Int) := by omega
  have i3 : (n : Int) ≤ (NM : Int) := by omega
  have i4 : (n : Int) ≤ (ca : Int) := by omega
  have i5 : (n : Int) ≤ (cb : Int) := by omega
  have HRA := hid ha
  have HRM := hid hb
  have HNA := hid hNA
  have HNM := hid hNM
  obtain ⟨Q0, hQ0⟩ : ∃ Q0, Q0 = Sd.bes half sec ((A.take n).map dat) ((M.take n).map dat) := ⟨_, rfl⟩
  have HQ0 := hid hQ0
  have hQl := bes_len half sec hh ((A.take n).map dat) ((M.take n).map dat)
  rw [← hQ0, List.length_map, List.length_take] at hQl
  rw [← List.map_take, ← List.map_take, ← hQ0, ← List.map_drop, ← List.map_drop] at HCH
  obtain ⟨LA, hLA⟩ : ∃ LA, LA = A.drop n := ⟨_, rfl⟩
  obtain ⟨LM, hLM⟩ : ∃ LM, LM = M.drop n := ⟨_, rfl⟩
  obtain ⟨D1, hD1⟩ : ∃ D1, NA - n = D1 := ⟨_, rfl⟩
  obtain ⟨D2, hD2⟩ : ∃ D2, NM - n = D2 := ⟨_, rfl⟩
  obtain ⟨A1, hA1⟩ : ∃ A1, (if ca = n then aa else aa.map (·.add n)) = A1 := ⟨_, rfl⟩
  obtain ⟨A2, hA2⟩ : ∃ A2, (if cb = n then ab else ab.map (·.add n)) = A2 := ⟨_, rfl⟩
  have HR1 : Hid (∀ w', Below B w w' → RdT w' (.slice A1 D1 (ca - n)) LA) := hid (fun w' hw => by
    have h9 := rdT_sliced (c := ca) (a := aa) (by have := ha w' hw; rw [hNA] at this; exact this) (x := n) (y := A.length) (by omega) (Nat.le_refl _)
    rw [hA1, show A.length - n = D1 by omega, List.take_of_length_le (by rw [List.length_drop]; omega), ← hLA] at h9
    exact h9)
  have HR2 : Hid (∀ w', Below B w w' → RdT w' (.slice A2 D2 (cb - n)) LM) := hid (fun w' hw => by
    have h9 := rdT_sliced (c := cb) (a := ab) (by have := hb w' hw; rw [hNM] at this; exact this) (x := n) (y := M.length) (by omega) (Nat.le_refl _)
    rw [hA2, show M.length - n = D2 by omega, List.take_of_length_le (by rw [List.length_drop]; omega), ← hLM] at h9
    exact h9)
  have HD1 : Hid (D1 = LA.length) := hid (by rw [hLA, List.length_drop]; omega)
  have HD2 : Hid (D2 = LM.length) := hid (by rw [hLM, List.length_drop]; omega)
  have HXA : Hid (∀ x ∈ LA, x.size ≤ 1099511627776) := hid (fun x hxx => hx x (List.mem_of_mem_drop (by rw [hLA] at hxx; exact hxx)))
  have HXM : Hid (∀ x ∈ LM, x.size ≤ 1099511627776) := hid (fun x hxx => hy x (List.mem_of_mem_drop (by rw [hLM] at hxx; exact hxx)))
  rw [← hLA, ← hLM] at HCH
  have HS1 : Hid ((l ++ Q0).length + 8196 * D1 ≤ 100000000000000) := hid (by rw [List.length_append]; omega)
  have HS2 : Hid ((l ++ Q0 ++ Sd.olds half sec (LA.map dat)).length + 8196 * D2 ≤ 100000000000000) := hid (by
    have h9 := olds_len half sec hh (LA.map dat)
    rw [List.length_map] at h9
    rw [List.length_append, List.length_append]
    have := HD1.out
    omega)
  have j1 : (n : Int) ≤ (ca : Int) := i4
  clear h hch hn hNA hNM ha hb hx hy hl hQl hQ0 hLA hLM
  go_enter Tryd.func21, Tryd.ntmps21
  go_wp2_with fail
  refine wp_region_qtailY 7 (by kernel_rfl) (by kernel_rfl) ?_
  simp only [List.take_succ_cons, List.take_zero, List.drop_succ_cons, List.drop_zero]
  repeat go_big_quiet_step (fail)
  refine wpQuiet_nil ?_
  go_wp2_with fail
  have HPd := hid (HP.out.below (below_drewN (Below.refl w.heap.size w) 1))
  have HFd := hid (Bx.Fr.of (b := b) (below_drewN (Below.refl w.heap.size w) 1) hB)
  have HDd : Hid (B ≤ (w.drewN 1).heap.size) := hid hB
  clear HP
  generalize w.drewN 1 = wd at HPd HFd HDd ⊢
  refine (HBS.out wd _ _ HPd.out HDd.out (fun w' hw => rdT_first (HRA.out w' (HFd.out.below.trans hw)) HNA.out hna) (fun w' hw => rdT_first (HRM.out w' (HFd.out.below.trans hw)) HNM.out hnm)).mono ?_
  rintro e w2 ⟨rfl, hp2, hf2⟩
  rw [← HQ0.out] at hp2
  have HP := hid hp2
  have HF := hid (HFd.out.trans hf2)
  clear hp2 hf2 HPd HFd HDd HBS
  go_wp2_with fail
  go_loopw [28] (fun ii wr => ∃ k : Nat, ii = .int .i64 k ∧ k ≤ D1 ∧ Hid (Pg B b half sec ((l ++ Q0) ++ Sd.olds half sec ((LA.map dat).take k)) wr) ∧ Hid (Bx.Fr B b w wr)) (fun ii _ => D1 - (intOf ii).toNat)
  case atStart => exact ⟨0, rfl, Nat.zero_le _, hid (by rw [List.take_zero, show Sd.olds half sec [] = [] from rfl, List.append_nil]; exact HP.out), HF⟩
  case round =>
    obtain ⟨k, rfl, hk, HPk, HFk⟩ := hrel
    by_cases hlt : k < D1
    · obtain ⟨x, hxk⟩ : ∃ x, (LA)[k]? = some x := ⟨_, List.getElem?_eq_getElem (by have := HD1.out; omega)⟩
      obtain ⟨b1, o1, e1, hb1, d1⟩ := rdT_at (HR1.out wr HFk.out.below) hxk
      subst e1
      have hm := List.mem_of_getElem? hxk
      have hbl := olds_len half sec hh ((LA.map dat).take k)
      have HON : Hid (Sd.olds half sec ((LA.map dat).take (k + 1)) = Sd.olds half sec ((LA.map dat).take k) ++ Sd.rowT half sec (dat x) 60 []) := hid (olds_one half sec (by rw [List.getElem?_map, hxk]; rfl))
      obtain ⟨P, hP⟩ : ∃ P, P = (l ++ Q0) ++ Sd.olds half sec ((LA.map dat).take k) := ⟨_, rfl⟩
      have hPl : P.length ≤ 100000000000000 := by
        have h9 : ((LA.map dat).take k).length ≤ D1 := by rw [List.length_take, List.length_map, ← HD1.out]; omega
        have := HS1.out
        rw [hP, List.length_append]
        omega
      have HPP := hid hP
      rw [← hP] at HPk
      have HRO := hid (fun w1 (h1 : Pg B b half sec P w1) (h2 : B ≤ w1.heap.size) => row_any x ⟨#[]⟩ 60 hh h1 h2 (HXA.out x hm) (by decide) hPl)
      have i1 : (0 : Int) ≤ (k : Int) := by omega
      have i2 : (k : Int) < (D1 : Int) := by omega
      have i3 : IntKind.i64.wrap ((k : Int) + 1) = (k : Int) + 1 := by have := HS1.out; exact wrapB (by omega) (by omega)
      clear hxk hbl hP hPl hb1 hm
      go_wp2_with fail
      refine (HRO.out wr HPk.out (Nat.le_trans hB HFk.out.below.size)).mono ?_
      rintro e w5 ⟨rfl, hp5, hf5⟩
      have HP5 := hid hp5
      have HF5 := hid (HFk.out.trans hf5)
      clear hp5 hf5 HPk HFk HRO d1
      go_wp2_with fail
      go_roundw
      case rel => exact ⟨k + 1, by go_num, by omega, hid (by rw [HON.out, ← List.append_assoc, ← HPP.out]; exact HP5.out), HF5⟩
      case measure => simp [intOf]; omega
    · obtain rfl : k = D1 := by omega
      have i2 : ¬ ((k : Int) < (k : Int)) := by omega
      have HE1 : Hid ((LA.map dat).take k = LA.map dat) := hid (List.take_of_length_le (by rw [List.length_map]; have := HD1.out; omega))
      rw [HE1.out] at HPk
      obtain ⟨wq, hwq⟩ : ∃ wq, wq = wr := ⟨_, rfl⟩
      subst hwq
      have HP := HPk
      have HF := HFk
      clear HPk HFk HE1
      go_wp2_with fail
      go_loopw [40] (fun ii wr => ∃ k : Nat, ii = .int .i64 k ∧ k ≤ D2 ∧ Hid (Pg B b half sec ((l ++ Q0 ++ Sd.olds half sec (LA.map dat)) ++ Sd.news half sec ((LM.map dat).take k)) wr) ∧ Hid (Bx.Fr B b w wr)) (fun ii _ => D2 - (intOf ii).toNat)
      case atStart => exact ⟨0, rfl, Nat.zero_le _, hid (by rw [List.take_zero, show Sd.news half sec [] = [] from rfl, List.append_nil]; exact HP.out), HF⟩
      case round =>
        obtain ⟨k, rfl, hk, HPk, HFk⟩ := hrel
        by_cases hlt : k < D2
        · obtain ⟨x, hxk⟩ : ∃ x, (LM)[k]? = some x := ⟨_, List.getElem?_eq_getElem (by have := HD2.out; omega)⟩
          obtain ⟨b1, o1, e1, hb1, d1⟩ := rdT_at (HR2.out wr HFk.out.below) hxk
          subst e1
          have hm := List.mem_of_getElem? hxk
          have hbl := news_len half sec hh ((LM.map dat).take k)
          have HON : Hid (Sd.news half sec ((LM.map dat).take (k + 1)) = Sd.news half sec ((LM.map dat).take k) ++ Sd.rowT half sec [] 62 (dat x)) := hid (news_one half sec (by rw [List.getElem?_map, hxk]; rfl))
          obtain ⟨P, hP⟩ : ∃ P, P = (l ++ Q0 ++ Sd.olds half sec (LA.map dat)) ++ Sd.news half sec ((LM.map dat).take k) := ⟨_, rfl⟩
          have hPl : P.length ≤ 100000000000000 := by
            have h9 : ((LM.map dat).take k).length ≤ D2 := by rw [List.length_take, List.length_map, ← HD2.out]; omega
            have := HS2.out
            rw [hP, List.length_append]
            omega
          have HPP := hid hP
          rw [← hP] at HPk
          have HRO := hid (fun w1 (h1 : Pg B b half sec P w1) (h2 : B ≤ w1.heap.size) => row_any ⟨#[]⟩ x 62 hh h1 h2 (by decide) (HXM.out x hm) hPl)
          have i1 : (0 : Int) ≤ (k : Int) := by omega
          have i2 : (k : Int) < (D2 : Int) := by omega
          have i3 : IntKind.i64.wrap ((k : Int) + 1) = (k : Int) + 1 := by have := HS2.out; exact wrapB (by omega) (by omega)
          clear hxk hbl hP hPl hb1 hm
          go_wp2_with fail
          refine (HRO.out wr HPk.out (Nat.le_trans hB HFk.out.below.size)).mono ?_
          rintro e w5 ⟨rfl, hp5, hf5⟩
          have HP5 := hid hp5
          have HF5 := hid (HFk.out.trans hf5)
          clear hp5 hf5 HPk HFk HRO d1
          go_wp2_with fail
          go_roundw
          case rel => exact ⟨k + 1, by go_num, by omega, hid (by rw [HON.out, ← List.append_assoc, ← HPP.out]; exact HP5.out), HF5⟩
          case measure => simp [intOf]; omega
        · obtain rfl : k = D2 := by omega
          have i2 : ¬ ((k : Int) < (k : Int)) := by omega
          have HE1 : Hid ((LM.map dat).take k = LM.map dat) := hid (List.take_of_length_le (by rw [List.length_map]; have := HD2.out; omega))
          rw [HE1.out] at HPk
          go_wp2_with fail
          exact bodyPost_end (v := .tuple #[]) (results_none Tryd.results21 _ _ _) rfl ⟨rfl, by rw [HCH.out, ← List.append_assoc, ← List.append_assoc]; exact HPk.out, HFk.out⟩
end Sy
end Go.Proofs.YtjgjfnmljmmplaaDoor
