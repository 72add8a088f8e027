/-
  The walk of the document's Valid: for every list of strings.
-/
import Derived.Test.YtjgjfnmljmmplaaDoorXValid
import Derived.Test.YtjgjfnmljmmplaaDoorGrDn
namespace Go.Proofs.YtjgjfnmljmmplaaDoor.Cx
open Go.RowKit

set_option maxHeartbeats 400000 in
theorem refValid_none (a : Option Addr) (c : Nat) (w : World) :
    Calls Tryd.prog 23 #[.slice a 0 c] w fun e w' => e = .returned (.bool true) ∧ w' = w := by
  go_enter Tryd.func23, Tryd.ntmps23
  go_wp2
  refine wp_loop_rounds 1 ?_
  rw [rounds_succ]
  go_wp2
  go_ret
  exact ⟨rfl, rfl⟩

theorem ok1_part (x : ByteArray) (j : Nat) (hj : j < x.size) (h : ((x[j].toNat : Int) == 10) = true) (hl : j + 1 < x.size) : Pl.ok1 x.data.toList = false := by
  rw [ok1_eq x (by omega)]
  refine decide_eq_false ?_
  have := Pl.fl_part x.data.toList j (by rw [byte_at x j hj, (ten_iff _).1 (beq_iff_eq.1 h)]) (by rw [size_data]; exact hl)
  rw [size_data] at this
  exact this
theorem ok1_full (x : ByteArray) (hp : x.size ≠ 0) (h : (10 : UInt8) ∉ x.data.toList.take (x.size - 1)) : Pl.ok1 x.data.toList = true := by
  rw [ok1_eq x hp]
  refine decide_eq_true ?_
  have := Pl.fl_full x.data.toList (by rw [size_data]; exact h)
  rw [size_data] at this
  exact this
theorem take_miss (x : ByteArray) (j : Nat) (hj : j < x.size) (h : ((x[j].toNat : Int) == 10) = false) (hno : (10 : UInt8) ∉ x.data.toList.take j) : (10 : UInt8) ∉ x.data.toList.take (j + 1) := by
  rw [take_snoc x j hj]
  intro h'
  rcases List.mem_append.1 h' with h' | h'
  · exact hno h'
  · simp at h'
    exact (beq_eq_false_iff_ne.1 h) ((ten_iff _).2 h'.symm)
theorem wh_ne (x : ByteArray) (h : 0 < x.size) (b : Bool) (hw : Pl.wh x.data.toList = b) : ((x[x.size - 1].toNat : Int) != 10) = !b := by
  rw [← hw, ← wh_at x h]; rfl

set_option maxHeartbeats 2000000 in
theorem refValid_any (bk o c : Nat) (xs : List ByteArray) (w : World) (hcells : ∀ (j : Nat) x, xs[j]? = some x → w.cell? ⟨bk, o + j, none⟩ = some (.string x))
    (hN : xs.length ≤ 140737488355328) (hsz : ∀ x ∈ xs, x.size ≤ maxLen) :
    Calls Tryd.prog 23 #[.slice (some ⟨bk, o, none⟩) xs.length c] w fun e w' => e = .returned (.bool (Pl.valid (DL xs))) ∧ w' = w := by
  have HC := hid hcells
  have HS := hid hsz
  clear hcells hsz
  go_enter Tryd.func23, Tryd.ntmps23
  go_wp2
  go_loop [3] (fun i => ∃ k : Nat, k ≤ xs.length ∧ i = .int .i64 k ∧ Pl.valid (DL xs) = Pl.valid ((DL xs).drop k)) (fun i => xs.length - (intOf i).toNat)
  case atStart => exact ⟨0, Nat.zero_le _, rfl, rfl⟩
  case round =>
    obtain ⟨k, hk, rfl, hv⟩ := hrel
    have HV := hid hv
    clear hv
    by_cases hlt : k < xs.length
    · have hd := hid (DL_drop xs k hlt)
      obtain ⟨x, hx⟩ : ∃ x, x = xs[k] := ⟨_, rfl⟩
      have hcell := HC.out k x (by rw [hx]; exact List.getElem?_eq_getElem hlt)
      have hxs : x.size ≤ maxLen := HS.out x (by rw [hx]; exact List.getElem_mem hlt)
      unfold maxLen at hxs
      rw [← hx] at hd
      clear hx
      go_wp2
      go_loop [5] (fun t => ∃ j : Nat, j ≤ x.size - 1 ∧ t = .int .i64 j ∧ (10 : UInt8) ∉ x.data.toList.take j) (fun t => x.size - (intOf t).toNat)
      case atStart => exact ⟨0, Nat.zero_le _, rfl, by simp⟩
      case round =>
        obtain ⟨j, hj, rfl, hno⟩ := hrel
        have HO := hid hno
        clear hno
        by_cases hjl : j + 1 < x.size
        · have hjx : j < x.size := by omega
          cases he : ((x[j].toNat : Int) == 10) with
          | true =>
            have hres := hid (Pl.valid_bad1 x.data.toList ((DL xs).drop (k + 1)) (ok1_part x j hjx he hjl))
            go_wp2
            go_ret
            exact ⟨ret_bool (by rw [HV.out, hd.out, hres.out]), rfl⟩
          | false =>
            have hm := hid (take_miss x j hjx he HO.out)
            go_wp2
            go_round
            case rel => exact ⟨j + 1, by omega, by go_num, hm.out⟩
            case measure => simp [intOf]; omega
        · have hjs : j = x.size - 1 := by omega
          subst hjs
          by_cases h0 : x.size = 0
          · have hz : ((x.size : Int) == 0) = true := by rw [beq_iff_eq]; omega
            have hres := hid (Pl.valid_bad1 x.data.toList ((DL xs).drop (k + 1)) (ok1_no0 x h0))
            have H0 := hid h0
            clear h0
            go_wp2
            go_ret
            exact ⟨ret_bool (by rw [HV.out, hd.out, hres.out]), rfl⟩
          · have hz : ((x.size : Int) == 0) = false := by rw [beq_eq_false_iff_ne]; omega
            have HK := hid (ok1_full x h0 HO.out)
            by_cases hl : k + 1 < xs.length
            · have hr : (DL xs).drop (k + 1) ≠ [] := by
                intro e
                have := congrArg List.length e
                rw [List.length_drop, DL_length, List.length_nil] at this
                omega
              cases hw : Pl.wh x.data.toList with
              | true =>
                have hres := hid (Pl.valid_good x.data.toList ((DL xs).drop (k + 1)) HK.out (.inr hw))
                have hlast := wh_ne x (by omega) _ hw
                clear hr hw
                go_wp2
                go_round
                case rel => exact ⟨k + 1, by omega, by go_num, by rw [HV.out, hd.out, hres.out]⟩
                case measure => simp [intOf]; omega
              | false =>
                have hres := hid (Pl.valid_bad2 x.data.toList _ hr hw)
                have hlast := wh_ne x (by omega) _ hw
                clear hr hw
                go_wp2
                go_ret
                exact ⟨ret_bool (by rw [HV.out, hd.out, hres.out]), rfl⟩
            · have hr : (DL xs).drop (k + 1) = [] := by
                rw [← List.length_eq_zero_iff, List.length_drop, DL_length]
                omega
              have hres := hid (Pl.valid_good x.data.toList ((DL xs).drop (k + 1)) HK.out (.inl hr))
              clear hr
              go_wp2
              go_round
              case rel => exact ⟨k + 1, by omega, by go_num, by rw [HV.out, hd.out, hres.out]⟩
              case measure => simp [intOf]; omega
    · have hnil : (DL xs).drop k = [] := by
        rw [← List.length_eq_zero_iff, List.length_drop, DL_length]
        omega
      have HZ := hid hnil
      clear hnil
      go_wp2
      go_ret
      exact ⟨ret_bool (by rw [HV.out, HZ.out]; rfl), rfl⟩
end Go.Proofs.YtjgjfnmljmmplaaDoor.Cx
