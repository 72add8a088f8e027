/-
  The walks of areBlank and of the document's counts.
-/
import Derived.Test.YtmomeemkdfoklaaDoorXN5
import Derived.Test.YtmomeemkdfoklaaDoorC2
namespace Go.Proofs.YtmomeemkdfoklaaDoor
open Go.RowKit

/-- a row of strings that is read -/
abbrev RdS (w : World) (v : Value) (xs : List ByteArray) : Prop := RdX w v xs.length (xs.map Value.string)
theorem rdS_at {w : World} {a : Option Addr} {n c : Nat} {l : List ByteArray} (h : RdS w (.slice a n c) l) {k : Nat} {x : ByteArray} (hk : l[k]? = some x) :
    ∃ b o, a = some ⟨b, o, none⟩ ∧ b < w.heap.size ∧ w.cell? ⟨b, o + k, none⟩ = some (.string x) := by
  rcases h with ⟨hn, _⟩ | ⟨b, o, c', hv, _, hb, hX⟩
  · obtain ⟨h1, _⟩ := List.getElem?_eq_some_iff.1 hk
    omega
  · cases hv
    exact ⟨b, o, rfl, hb, hX k _ (by rw [List.getElem?_map, hk]; rfl)⟩
/-- are all blank? -/
def allB (xs : List ByteArray) : Bool := xs.all fun s => Cx.blk s.data.toList
theorem all_take {xs : List ByteArray} {k : Nat} {x : ByteArray} (h : xs[k]? = some x) : allB (xs.take (k + 1)) = (allB (xs.take k) && Cx.blk x.data.toList) := by
  unfold allB
  rw [List.take_add_one, h, List.all_append]
  simp
theorem all_no {xs : List ByteArray} {k : Nat} {x : ByteArray} (h : xs[k]? = some x) (hx : Cx.blk x.data.toList = false) : allB xs = false := by
  unfold allB
  rw [List.all_eq_false]
  exact ⟨x, List.mem_of_getElem? h, by rw [hx]; simp⟩

set_option maxHeartbeats 2000000 in
set_option maxRecDepth 100000 in
theorem areBlank_any {w : World} {v : Value} {xs : List ByteArray} (hv : RdS w v xs) (hl : xs.length ≤ 10000000) (hs : ∀ x ∈ xs, x.size ≤ 140737488355327) :
    Calls Tryd.prog 25 #[v] w fun e w' => e = .returned (.bool (allB xs)) ∧ w' = w := by
  obtain ⟨av, cv, rfl⟩ := hv.shape
  have HV := hid hv
  have HS := hid hs
  obtain ⟨n, hn⟩ : ∃ n, n = xs.length := ⟨_, rfl⟩
  have HN := hid hn
  rw [← hn] at HV hl ⊢
  clear hv hs hn
  go_enter Tryd.func25, Tryd.ntmps25
  go_wp2
  go_loopw [4, 7] (fun _ ii wr => ∃ k : Nat, k ≤ n ∧ ii = .int .i64 k ∧ Hid (allB (xs.take k) = true) ∧ wr = w) (fun _ ii _ => n - (intOf ii).toNat)
  case atStart => exact ⟨0, Nat.zero_le _, rfl, hid rfl, rfl⟩
  case round =>
    obtain ⟨k, hk, rfl, HA, hwr⟩ := hrel
    subst hwr
    by_cases hlt : k < n
    · obtain ⟨x, hx⟩ : ∃ x, xs[k]? = some x := ⟨_, List.getElem?_eq_getElem (by have := HN.out; omega)⟩
      obtain ⟨b1, o1, e1, hb1, d1⟩ := rdS_at HV.out hx
      subst e1
      have HB := hid (Cx.blank_any x wr (HS.out x (List.mem_of_getElem? hx)))
      have HX := hid hx
      have i1 : (0 : Int) ≤ (k : Int) := by omega
      have i2 : (k : Int) < (n : Int) := by omega
      have i3 : IntKind.i64.wrap ((k : Int) + 1) = (k : Int) + 1 := by rw [IntKind.wrap_i64]; omega
      clear hx
      cases hbk : Cx.blk x.data.toList with
      | true =>
        rw [hbk] at HB
        have HA2 : Hid (allB (xs.take (k + 1)) = true) := hid (by rw [all_take HX.out, HA.out, hbk]; rfl)
        clear hbk
        go_wp2_with fail
        refine HB.out.mono ?_
        rintro e w2 ⟨rfl, h2⟩
        rw [h2]
        clear h2 w2
        go_wp2
        go_roundw
        case rel => exact ⟨k + 1, by omega, by push_cast; rfl, HA2, trivial⟩
        case measure => simp [intOf]; omega
      | false =>
        rw [hbk] at HB
        have HE : Hid (allB xs = false) := hid (all_no HX.out hbk)
        clear hbk
        go_wp2_with fail
        refine HB.out.mono ?_
        rintro e w2 ⟨rfl, h2⟩
        rw [h2]
        clear h2 w2
        go_wp2
        go_ret
        exact ⟨ret_bool HE.out.symm, rfl⟩
    · obtain rfl : k = n := by omega
      have HE : Hid (allB xs = true) := hid (by have h := HA.out; rw [List.take_of_length_le (by have := HN.out; omega)] at h; exact h)
      go_wp2
      go_ret
      exact ⟨ret_bool HE.out.symm, rfl⟩
set_option maxHeartbeats 2000000 in
set_option maxRecDepth 100000 in
theorem counts_any {w : World} {v : Value} {xs : List ByteArray} (hv : RdS w v xs) (hl : xs.length ≤ 10000000) (hs : ∀ x ∈ xs, x.size ≤ 140737488355327) :
    Calls Tryd.prog 27 #[v] w fun e w' => e = .returned (.bool (!allB xs)) ∧ w' = w := by
  obtain ⟨av, cv, rfl⟩ := hv.shape
  have HV := hid hv
  have HS := hid hs
  obtain ⟨n, hn⟩ : ∃ n, n = xs.length := ⟨_, rfl⟩
  have HN := hid hn
  rw [← hn] at HV hl ⊢
  clear hv hs hn
  go_enter Tryd.func27, Tryd.ntmps27
  go_wp2
  go_loopw [3] (fun ii wr => ∃ k : Nat, k ≤ n ∧ ii = .int .i64 k ∧ Hid (allB (xs.take k) = true) ∧ wr = w) (fun ii _ => n - (intOf ii).toNat)
  case atStart => exact ⟨0, Nat.zero_le _, rfl, hid rfl, rfl⟩
  case round =>
    obtain ⟨k, hk, rfl, HA, hwr⟩ := hrel
    subst hwr
    by_cases hlt : k < n
    · obtain ⟨x, hx⟩ : ∃ x, xs[k]? = some x := ⟨_, List.getElem?_eq_getElem (by have := HN.out; omega)⟩
      obtain ⟨b1, o1, e1, hb1, d1⟩ := rdS_at HV.out hx
      subst e1
      have HB := hid (Cx.refBlank_any x wr (HS.out x (List.mem_of_getElem? hx)))
      have HX := hid hx
      have i1 : (0 : Int) ≤ (k : Int) := by omega
      have i2 : (k : Int) < (n : Int) := by omega
      have i3 : IntKind.i64.wrap ((k : Int) + 1) = (k : Int) + 1 := by rw [IntKind.wrap_i64]; omega
      clear hx
      cases hbk : Cx.blk x.data.toList with
      | true =>
        rw [hbk] at HB
        have HA2 : Hid (allB (xs.take (k + 1)) = true) := hid (by rw [all_take HX.out, HA.out, hbk]; rfl)
        clear hbk
        go_wp2_with fail
        refine HB.out.mono ?_
        rintro e w2 ⟨rfl, h2⟩
        rw [h2]
        clear h2 w2
        go_wp2
        go_roundw
        case rel => exact ⟨k + 1, by omega, by push_cast; rfl, HA2, trivial⟩
        case measure => simp [intOf]; omega
      | false =>
        rw [hbk] at HB
        have HE : Hid (allB xs = false) := hid (all_no HX.out hbk)
        clear hbk
        go_wp2_with fail
        refine HB.out.mono ?_
        rintro e w2 ⟨rfl, h2⟩
        rw [h2]
        clear h2 w2
        go_wp2
        go_ret
        exact ⟨ret_bool (by rw [HE.out]; rfl), rfl⟩
    · obtain rfl : k = n := by omega
      have HE : Hid (allB xs = true) := hid (by have h := HA.out; rw [List.take_of_length_le (by have := HN.out; omega)] at h; exact h)
      go_wp2
      go_ret
      exact ⟨ret_bool (by rw [HE.out]; rfl), rfl⟩
end Go.Proofs.YtmomeemkdfoklaaDoor
