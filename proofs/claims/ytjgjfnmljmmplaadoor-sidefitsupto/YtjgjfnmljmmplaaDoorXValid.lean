/-
  The walk of the program's Valid: for every list of strings.
-/
import Derived.Test.YtjgjfnmljmmplaaDoorXSplit
namespace Go.Proofs.YtjgjfnmljmmplaaDoor.Cx
open Go.RowKit

/-- strings as lists of bytes -/
def DL (xs : List ByteArray) : List (List UInt8) := xs.map (·.data.toList)
theorem DL_length (xs : List ByteArray) : (DL xs).length = xs.length := List.length_map _
theorem DL_drop (xs : List ByteArray) (k : Nat) (h : k < xs.length) : (DL xs).drop k = xs[k].data.toList :: (DL xs).drop (k + 1) := by
  have h' : k < (DL xs).length := by rw [DL_length]; exact h
  rw [List.drop_eq_getElem_cons h']
  simp [DL]
theorem ok1_no0 (x : ByteArray) (h : x.size = 0) : Pl.ok1 x.data.toList = false := by
  have : x.data.toList = [] := by rw [← List.length_eq_zero_iff, size_data]; exact h
  rw [this]; rfl
theorem ok1_eq (x : ByteArray) (h : x.size ≠ 0) : Pl.ok1 x.data.toList = decide (Pl.fl x.data.toList = x.size) := by
  unfold Pl.ok1
  have : x.data.toList.isEmpty = false := by rw [← Bool.not_eq_true, List.isEmpty_iff]; exact data_ne x h
  rw [this, size_data]; rfl

theorem ret_bool {a b : Bool} (h : a = b) : Ending.returned (.bool a) = .returned (.bool b) := by rw [h]

set_option maxHeartbeats 400000 in
theorem valid_none (a : Option Addr) (c : Nat) (w : World) :
    Calls Tryd.prog 18 #[.slice a 0 c] w fun e w' => e = .returned (.bool true) ∧ w' = w := by
  go_enter Tryd.func18, Tryd.ntmps18
  go_wp2
  refine wp_loop_rounds 1 ?_
  rw [rounds_succ]
  go_wp2
  go_ret
  exact ⟨rfl, rfl⟩

set_option maxHeartbeats 1000000 in
theorem valid_any (bk o c : Nat) (xs : List ByteArray) (w : World) (hcells : ∀ (j : Nat) x, xs[j]? = some x → w.cell? ⟨bk, o + j, none⟩ = some (.string x))
    (hN : xs.length ≤ 140737488355328) (hsz : ∀ x ∈ xs, x.size ≤ maxLen) :
    Calls Tryd.prog 18 #[.slice (some ⟨bk, o, none⟩) xs.length c] w fun e w' => e = .returned (.bool (Pl.valid (DL xs))) ∧ w' = w := by
  have HC := hid hcells
  have HS := hid hsz
  clear hcells hsz
  go_enter Tryd.func18, Tryd.ntmps18
  go_wp2
  go_loop [7] (fun i => ∃ k : Nat, k ≤ xs.length ∧ i = .int .i64 k ∧ Pl.valid (DL xs) = Pl.valid ((DL xs).drop k)) (fun i => xs.length - (intOf i).toNat)
  case atStart => exact ⟨0, Nat.zero_le _, rfl, rfl⟩
  case round =>
    obtain ⟨k, hk, rfl, hv⟩ := hrel
    have HV := hid hv
    clear hv
    by_cases hlt : k < xs.length
    · have hd := hid (DL_drop xs k hlt)
      obtain ⟨x, hx⟩ : ∃ x, x = xs[k] := ⟨_, rfl⟩
      have hcell := HC.out k x (by rw [hx]; exact List.getElem?_eq_getElem hlt)
      have hxs : x.size ≤ maxLen := HS.out x (by rw [hx]; exact List.getElem_mem hlt)
      rw [← hx] at hd
      clear hx
      by_cases h0 : x.size = 0
      · have he := empty_yes x h0
        have hres := hid (Pl.valid_bad1 x.data.toList ((DL xs).drop (k + 1)) (ok1_no0 x h0))
        clear h0
        go_wp2_with fail
        go_ret
        exact ⟨ret_bool (by rw [HV.out, hd.out, hres.out]), rfl⟩
      · have he := empty_no x h0
        have hok := ok1_eq x h0
        have hfl := Pl.fl_le x.data.toList
        rw [size_data] at hfl
        by_cases hf : Pl.fl x.data.toList = x.size
        · have hok' : Pl.ok1 x.data.toList = true := by rw [hok]; exact decide_eq_true hf
          have HF := hid hf
          have HK := hid hok'
          clear hok hok' hf hfl
          by_cases hl : k + 1 < xs.length
          · have hr : (DL xs).drop (k + 1) ≠ [] := by
              intro e
              have := congrArg List.length e
              rw [List.length_drop, DL_length, List.length_nil] at this
              omega
            cases hw : Pl.wh x.data.toList with
            | true =>
              have hres := hid (Pl.valid_good x.data.toList ((DL xs).drop (k + 1)) HK.out (.inr hw))
              clear hr
              go_wp2_with (first | (go_at_call 32; refine (first_any x _ hxs).mono ?_; rintro e w' ⟨rfl, rfl⟩; rw [HF.out]) | (go_at_call 36; refine (whole_any x _ hxs).mono ?_; rintro e w' ⟨rfl, rfl⟩))
              go_round
              case rel => exact ⟨k + 1, by omega, by go_num, by rw [HV.out, hd.out, hres.out]⟩
              case measure => simp [intOf]; omega
            | false =>
              have hres := hid (Pl.valid_bad2 x.data.toList _ hr hw)
              clear hr
              go_wp2_with (first | (go_at_call 32; refine (first_any x _ hxs).mono ?_; rintro e w' ⟨rfl, rfl⟩; rw [HF.out]) | (go_at_call 36; refine (whole_any x _ hxs).mono ?_; rintro e w' ⟨rfl, rfl⟩))
              go_ret
              exact ⟨ret_bool (by rw [HV.out, hd.out, hres.out]), rfl⟩
          · have hr : (DL xs).drop (k + 1) = [] := by
              rw [← List.length_eq_zero_iff, List.length_drop, DL_length]
              omega
            have hres := hid (Pl.valid_good x.data.toList ((DL xs).drop (k + 1)) HK.out (.inl hr))
            clear hr
            go_wp2_with (go_at_call 32; refine (first_any x _ hxs).mono ?_; rintro e w' ⟨rfl, rfl⟩; rw [HF.out])
            go_round
            case rel => exact ⟨k + 1, by omega, by go_num, by rw [HV.out, hd.out, hres.out]⟩
            case measure => simp [intOf]; omega
        · have hok' : Pl.ok1 x.data.toList = false := by rw [hok]; exact decide_eq_false hf
          have hres := hid (Pl.valid_bad1 x.data.toList ((DL xs).drop (k + 1)) hok')
          have hne : ((Pl.fl x.data.toList : Int) != (x.size : Int)) = true := by rw [bne_iff_ne]; omega
          clear hok hok'
          go_wp2_with (go_at_call 32; refine (first_any x _ hxs).mono ?_; rintro e w' ⟨rfl, rfl⟩)
          go_ret
          exact ⟨ret_bool (by rw [HV.out, hd.out, hres.out]), rfl⟩
    · have hnil : (DL xs).drop k = [] := by
        rw [← List.length_eq_zero_iff, List.length_drop, DL_length]
        omega
      have HZ := hid hnil
      clear hnil
      go_wp2
      go_ret
      exact ⟨ret_bool (by rw [HV.out, HZ.out]; rfl), rfl⟩
end Go.Proofs.YtjgjfnmljmmplaaDoor.Cx
