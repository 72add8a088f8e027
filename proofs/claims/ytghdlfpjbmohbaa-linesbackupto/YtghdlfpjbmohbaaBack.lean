/-
  The walk of LinesBack.
-/
import Derived.Test.YtghdlfpjbmohbaaRd2
import Derived.Test.YtghdlfpjbmohbaaPlBack
namespace Go.Proofs.Ytghdlfpjbmohbaa.linesBack
open Go.ChangeShapes Go.WideShapes Go.ChangeAt Go.RowKit

/-- the place of a line's last byte, as Place tells it -/
theorem line_at (s : ByteArray) (k : Nat) (x : List UInt8) (hx : (Pl.cut s.data.toList)[k]? = some x) :
    0 < x.length ∧ (Pl.pre (Pl.cut s.data.toList) k).length + x.length ≤ s.size ∧ cnt s ((Pl.pre (Pl.cut s.data.toList) k).length + x.length - 1) = k ∧
    lst s ((Pl.pre (Pl.cut s.data.toList) k).length + x.length - 1) = ((Pl.pre (Pl.cut s.data.toList) k).length : Int) - 1 := by
  obtain ⟨h1, h2, h3, h4, h5⟩ := Pl.line_place (Pl.valid_cut s.data.toList) k x hx
  rw [Pl.cut_flatten] at h2 h3 h4 h5
  rw [size_data] at h2
  generalize (Pl.pre (Pl.cut s.data.toList) k).length = n at h2 h3 h4 h5 ⊢
  refine ⟨h1, h2, by unfold cnt Lib.countByte; rw [h3], ?_⟩
  have hbyte : ∀ j, j < s.size → (((s.data[j]!).toNat : Int) = 10 ↔ s.data.toList[j]? = some 10) := by
    intro j hj
    rw [at_bang s j hj, byte_at s j hj, ten_iff]
    simp
  unfold lst
  rcases Lib.lastIdx_spec s 10 (n + x.length - 1) with ⟨e, hn⟩ | ⟨i, hi, e, hc, hn⟩
  · rw [e]
    by_cases h0 : n = 0
    · subst h0; rfl
    · exact absurd ((hbyte (n - 1) (by omega)).2 (h5 h0)) (hn (n - 1) (by omega))
  · rw [e]
    have hin : i < n := by
      rcases Nat.lt_or_ge i n with h | h
      · exact h
      · exact absurd ((hbyte i (by omega)).1 hc) (h4 i h hi)
    by_cases he : i = n - 1
    · omega
    · exact absurd ((hbyte (n - 1) (by omega)).2 (h5 (by omega))) (hn (n - 1) (by omega) (by omega))

theorem cut_sizes (s : ByteArray) : ∀ x ∈ BL (Pl.cut s.data.toList), x.size ≤ s.size := by
  intro x hx
  unfold BL at hx
  obtain ⟨y, hy, rfl⟩ := List.mem_map.1 hx
  obtain ⟨k, hk⟩ := List.getElem?_of_mem hy
  obtain ⟨_, h2, _⟩ := line_at s k y hk
  have : (ByteArray.mk y.toArray).size = y.length := by show y.toArray.size = _; simp
  omega

theorem mk_size (x : List UInt8) : (ByteArray.mk x.toArray).size = x.length := by show x.toArray.size = _; simp


theorem place_line (s : ByteArray) (k P n : Nat) (w : World) (hs : s.size ≤ 1048576) (h1 : 0 < n) (h2 : P + n ≤ s.size) (h3 : cnt s (P + n - 1) = k) (h4 : lst s (P + n - 1) = (P : Int) - 1) :
    Calls Try.prog 23 #[.string s, .int .i64 ((P : Int) + n - 1)] w fun e w' => e = .returned (.tuple #[.int .i64 ((k : Int) + 1), .int .i64 n, .bool true]) ∧ w' = w := by
  have e : ((P : Int) + n - 1) = ((P + n - 1 : Nat) : Int) := by omega
  rw [e]
  refine (place_in s (P + n - 1) w (by omega) (by omega)).mono fun e w' ⟨he, hw⟩ => ⟨?_, hw⟩
  rw [he, h3, h4]
  exact ret_three rfl (by omega) rfl

theorem cut_some (s : ByteArray) (n : Nat) (hl : (Pl.cut s.data.toList).length = n) (k : Nat) (hk : k < n) :
    ∃ X : ByteArray, (Pl.cut s.data.toList)[k]? = some X.data.toList ∧ (SV (Pl.cut s.data.toList))[k]? = some (.string X) := by
  obtain ⟨x, hx⟩ : ∃ x, (Pl.cut s.data.toList)[k]? = some x := ⟨_, List.getElem?_eq_getElem (by omega)⟩
  refine ⟨⟨x.toArray⟩, by simpa using hx, ?_⟩
  unfold SV
  rw [List.getElem?_map, hx]
  rfl

set_option maxRecDepth 100000 in
set_option maxHeartbeats 4000000 in
theorem walk (s : ByteArray) (v : Value) (xs : List ByteArray) (w : World) (hs : s.size ≤ 1048576) (hr : Rd w v xs) (hsz : ∀ x ∈ xs, x.size ≤ maxLen) (hn : (DL xs).flatten.length + xs.length ≤ 1048576) :
    Calls Try.prog 7 #[.string s, v] w fun e w' => e = .returned (.bool true) ∧ Below w.heap.size w w' := by
  have hnum := Pl.num_le s.data.toList
  rw [size_data] at hnum
  have hN : xs.length ≤ 140737488355328 := by omega
  have hflat : (DL xs).flatten.length ≤ 1048576 := by omega
  have HF := hid hflat
  have HS := hid hsz
  have HR := hid hr
  clear hflat hsz hr hn
  have hjoin : (⟨(DL (BL (Pl.cut s.data.toList))).flatten.toArray⟩ : ByteArray) = s := by rw [DL_BL, Pl.cut_flatten, bytes_eta]
  have hjl : (DL (BL (Pl.cut s.data.toList))).flatten.length ≤ 140737488355328 := by rw [DL_BL, Pl.cut_flatten, size_data]; omega
  have hval : Pl.valid (DL (BL (Pl.cut s.data.toList))) = true := by rw [DL_BL]; exact Pl.valid_cut _
  have hcl : (BL (Pl.cut s.data.toList)).length ≤ 140737488355328 := by rw [BL_length, ← Pl.num_eq]; omega
  have hcs : ∀ x ∈ BL (Pl.cut s.data.toList), x.size ≤ maxLen := fun x hx => Nat.le_trans (cut_sizes s x hx) (by unfold maxLen; omega)
  have HJ := hid hjoin
  have HJL := hid hjl
  have HV := hid hval
  have HCS := hid hcs
  clear hjoin hjl hval hcs
  go_enter Try.func7, Try.ntmps7
  go_wp2_with fail
  refine (split_any s _ (by omega) (by omega)).mono ?_
  rintro e w1 ⟨rfl, ho1, hb1⟩
  have hr1 := rd_own ho1
  have HR1 := hid hr1
  have HO1 := hid ho1
  clear ho1 hr1
  have hlen : (Pl.cut s.data.toList).length = Pl.num s.data.toList := (Pl.num_eq _).symm
  rw [hlen]
  rw [hlen] at HR1 HO1
  generalize hnn : Pl.num s.data.toList = n at hnum hlen HR1 HO1 ⊢
  have HNUM := hid hnn
  have HLEN := hid hlen
  clear hlen hnn
  go_wp2_with fail
  refine (join_rd HR1.out hcl HJL.out).mono ?_
  rintro e w2 ⟨rfl, hb2⟩
  rw [HJ.out]
  have HR2 := hid (HR1.out.below hb2)
  go_wp2_with fail
  refine (valid_rd HR2.out hcl HCS.out).mono ?_
  rintro e w3 ⟨rfl, rfl⟩
  rw [HV.out]
  go_wp2_with fail
  refine (count_any s _ (by unfold maxLen; omega)).mono ?_
  rintro e w4 ⟨rfl, rfl⟩
  rw [HNUM.out]
  have HRL := hid ((HR.out.below hb1).below hb2)
  cases hvl : Pl.valid (DL xs)
  case' false =>
    go_wp2_with fail
    refine (valid_rd HRL.out hN HS.out).mono ?_
    rintro e wz ⟨rfl, rfl⟩
    rw [hvl]
    have hbz : Below w1.heap.size w1 wz := hb2
    clear HRL HR2 hb2 hvl
  case' true =>
    go_wp2_with fail
    refine (valid_rd HRL.out hN HS.out).mono ?_
    rintro e w5 ⟨rfl, rfl⟩
    rw [hvl]
    go_wp2_with fail
    refine (join_rd HRL.out hN (Nat.le_trans HF.out (by decide))).mono ?_
    rintro e w6 ⟨rfl, hb6⟩
    have hjs : (ByteArray.mk (DL xs).flatten.toArray).size ≤ 1048576 := by rw [mk_size]; exact HF.out
    have hjn : Pl.num (ByteArray.mk (DL xs).flatten.toArray).data.toList * 16 ≤ 281474976710656 := by
      have := Pl.num_le (ByteArray.mk (DL xs).flatten.toArray).data.toList
      rw [size_data] at this
      omega
    have hjc : BL (Pl.cut (ByteArray.mk (DL xs).flatten.toArray).data.toList) = xs := by
      show BL (Pl.cut (DL xs).flatten.toArray.toList) = xs
      rw [List.toList_toArray, Pl.cut_valid _ hvl, BL_DL]
    generalize ByteArray.mk (DL xs).flatten.toArray = J at hjs hjn hjc ⊢
    have HJC := hid hjc
    clear hjc
    go_wp2_with fail
    refine (split_rd J _ (by omega) hjn).mono ?_
    rintro e w7 ⟨v7, rfl, hr7, hb7⟩
    rw [HJC.out] at hr7
    have HRL7 := hid ((HRL.out.below hb6).below hb7)
    go_wp2_with fail
    refine (same_rd hr7 HRL7.out hN).mono ?_
    rintro e wz ⟨rfl, hb8⟩
    rw [decide_eq_true rfl]
    have z2 := hb2.size
    have z6 := hb6.size
    have z7 := hb7.size
    have hbz : Below w1.heap.size w1 wz := hb2.trans ((hb6.mono z2).trans ((hb7.mono (by omega)).trans (hb8.mono (by omega))))
    clear HRL HR2 hb2 hvl hr7 hb6 hb7 hb8 HRL7 HJC hjs hjn z2 z6 z7
  all_goals
    clear HF HS HR HJ HJL HV HCS HR1 HNUM hcl hN
    have hz1 : w.heap.size < w1.heap.size := by
      rcases HO1.out.2 with ⟨hv, _⟩ | ⟨g, cap, cur, hv, _, hh, _⟩
      · cases hv
      · cases hv; exact lt_of_heap hh
    have hcell : ∀ (k : Nat) (X : ByteArray), k < n → (SV (Pl.cut s.data.toList))[k]? = some (.string X) → wz.cell? ⟨w.heap.size, k, none⟩ = some (.string X) := by
      intro k X hk hX
      rw [hbz.cell (p := ⟨w.heap.size, k, none⟩) hz1, HO1.out.cellAt k (by omega), hX]
    have HC := hid hcell
    clear hcell HO1
    go_wp2
    go_loop [6, 7] (fun t i => ∃ k : Nat, k ≤ n ∧ i = .int .i64 k ∧ t = .int .i64 (Pl.pre (Pl.cut s.data.toList) k).length) (fun _ i => n - (intOf i).toNat)
    case atStart => exact ⟨0, Nat.zero_le _, rfl, rfl⟩
    case round =>
      obtain ⟨k, hk, rfl, rfl⟩ := hrel
      by_cases hlt : k < n
      · by_cases h50 : k < 50
        · obtain ⟨X, hX, hSX⟩ := cut_some s n HLEN.out k hlt
          have hc := HC.out k X hlt hSX
          obtain ⟨h1, h2, h3, h4⟩ := line_at s k _ hX
          have hpre := Pl.pre_succ _ k _ hX
          have hw := Pl.line_whole (Pl.valid_cut s.data.toList) k _ hX
          rw [Pl.cut_flatten, HLEN.out] at hw
          have hpl : (Pl.pre (Pl.cut s.data.toList) (k + 1)).length = (Pl.pre (Pl.cut s.data.toList) k).length + X.size := by rw [hpre, List.length_append, size_data]
          rw [size_data] at h1 h2 h3 h4
          have hXs : X.size ≤ maxLen := by unfold maxLen; omega
          have HXs := hid hXs
          have HPL := hid hpl
          have H3 := hid h3
          have H4 := hid h4
          have HW := hid hw
          clear hX hSX hpre hpl h3 h4 hXs hw
          generalize (Pl.pre (Pl.cut s.data.toList) k).length = P at h2 HPL H3 H4 ⊢
          by_cases hlast : k + 1 < n
          · have hwx : Pl.wh X.data.toList = true := by rw [HW.out, decide_eq_true hlast]; rfl
            have HWX := hid hwx
            clear hwx
            go_wp2_with fail
            refine (place_line s k P X.size _ hs h1 h2 H3.out H4.out).mono ?_
            rintro e w9 ⟨rfl, rfl⟩
            go_wp2_with fail
            refine (whole_any X _ HXs.out).mono ?_
            rintro e w9 ⟨rfl, rfl⟩
            rw [HWX.out]
            go_wp2
            go_round
            case rel => exact ⟨k + 1, by omega, by go_num, by rw [HPL.out]; go_num⟩
            case measure => simp [intOf]; omega
          · have hwx : Pl.wh X.data.toList = Pl.wh s.data.toList := by rw [HW.out, decide_eq_false hlast]; rfl
            have hsp : 0 < s.size := by omega
            have h10 := wh_at s hsp
            rw [← hwx] at h10
            clear HW
            cases hb : Pl.wh X.data.toList
            all_goals
              rw [hb] at h10
              have HB := hid hb
              clear hb hwx
              go_wp2_with fail
              refine (place_line s k P X.size _ hs h1 h2 H3.out H4.out).mono ?_
              rintro e w9 ⟨rfl, rfl⟩
              go_wp2_with fail
              refine (whole_any X _ HXs.out).mono ?_
              rintro e w9 ⟨rfl, rfl⟩
              rw [HB.out]
              go_wp2
              go_round
              case rel => exact ⟨k + 1, by omega, by go_num, by rw [HPL.out]; go_num⟩
              case measure => simp [intOf]; omega
        · go_wp2_with fail
          refine (sure_any _).mono ?_
          rintro e w9 ⟨rfl, hb9⟩
          go_wp2
          go_ret
          exact ⟨rfl, hb1.trans ((hbz.mono (Nat.le_of_lt hz1)).trans (hb9.mono (by have := hbz.size; omega)))⟩
      · go_wp2_with fail
        refine (sure_any _).mono ?_
        rintro e w9 ⟨rfl, hb9⟩
        go_wp2
        go_ret
        exact ⟨rfl, hb1.trans ((hbz.mono (Nat.le_of_lt hz1)).trans (hb9.mono (by have := hbz.size; omega)))⟩
end Go.Proofs.Ytghdlfpjbmohbaa.linesBack
