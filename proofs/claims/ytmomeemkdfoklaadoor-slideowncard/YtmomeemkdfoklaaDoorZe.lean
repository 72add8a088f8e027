/-
  slices.IndexFunc and slices.DeleteFunc over changes, for any test whose calls write only what is their own.
-/
import Derived.Test.YtmomeemkdfoklaaDoorZc
import Derived.Test.YtmomeemkdfoklaaDoorZ2
namespace Go.Proofs.YtmomeemkdfoklaaDoor
open Go.RowKit
open Ed (Ch Run Pr)

/-- the first that is met, or -1 -/
def fixI (p : Ch → Bool) (l : List Ch) : Int := match l.findIdx? p with
  | some k => k
  | none => -1
theorem fix_some {p : Ch → Bool} {l : List Ch} {k : Nat} {x : Ch} (hx : l[k]? = some x) (hp : p x = true) (hn : ∀ y ∈ l.take k, p y = false) : fixI p l = k := by
  obtain ⟨h1, h2⟩ := List.getElem?_eq_some_iff.1 hx
  have : l.findIdx? p = some k := by
    rw [List.findIdx?_eq_some_iff_getElem]
    refine ⟨h1, by rw [h2]; exact hp, fun j hj => ?_⟩
    rw [hn _ (List.mem_take_iff_getElem.2 ⟨j, by omega, rfl⟩)]
    simp
  unfold fixI
  rw [this]
theorem fix_none {p : Ch → Bool} {l : List Ch} (hn : ∀ y ∈ l, p y = false) : fixI p l = -1 := by
  have : l.findIdx? p = none := List.findIdx?_eq_none_iff.2 hn
  unfold fixI
  rw [this]

set_option maxHeartbeats 2000000 in
set_option maxRecDepth 100000 in
theorem indexFunc_any {w : World} {v : Value} {l : List Ch} (F : FuncId) (hent : ∀ (args : Array Value) (w : World), (callFunc F args).run Tryd.prog w = .ok (.enter F args) w) (caps : Array Value) (p : Ch → Bool) (hv : RdC w v l) (hl : l.length ≤ 10000000)
    (hp : ∀ x ∈ l, ∀ w1, Below w.heap.size w w1 → Calls Tryd.prog F (#[chV x] ++ caps) w1 fun e w2 => e = .returned (.bool (p x)) ∧ Below w1.heap.size w1 w2) :
    Calls Tryd.prog 39 #[v, .func (.func F) #[] caps] w fun e w' => e = .returned (.int .i64 (fixI p l)) ∧ Below w.heap.size w w' := by
  obtain ⟨av, cv, rfl⟩ := hv.shape
  have HV := hid hv
  have HP := hid hp
  have HENT := hid hent
  obtain ⟨n, hn⟩ : ∃ n, n = l.length := ⟨_, rfl⟩
  have HN := hid hn
  rw [← hn] at HV hl ⊢
  clear hv hp hent hn
  go_enter Tryd.func39, Tryd.ntmps39
  go_wp2
  go_loopw [5, 8] (fun _ ii wr => ∃ k : Nat, k ≤ n ∧ ii = .int .i64 k ∧ Hid (∀ y ∈ l.take k, p y = false) ∧ Hid (Below w.heap.size w wr)) (fun _ ii _ => n - (intOf ii).toNat)
  case atStart => exact ⟨0, Nat.zero_le _, rfl, hid (fun y hy => by simp at hy), hid (Below.refl _ _)⟩
  case round =>
    obtain ⟨k, hk, rfl, HA, HBW⟩ := hrel
    by_cases hlt : k < n
    · obtain ⟨x, hx⟩ : ∃ x, l[k]? = some x := ⟨_, List.getElem?_eq_getElem (by have := HN.out; omega)⟩
      obtain ⟨b1, o1, e1, hb1, d1, d2, d3, d4⟩ := rdC_at (HV.out.below HBW.out) hx
      subst e1
      have HC := hid (HP.out x (List.mem_of_getElem? hx) wr HBW.out)
      have HX := hid hx
      have i1 : (0 : Int) ≤ (k : Int) := by omega
      have i2 : (k : Int) < (n : Int) := by omega
      have i3 : IntKind.i64.wrap ((k : Int) + 1) = (k : Int) + 1 := by rw [IntKind.wrap_i64]; omega
      clear hx
      cases hpx : p x with
      | false =>
        rw [hpx] at HC
        have HA2 : Hid (∀ y ∈ l.take (k + 1), p y = false) := hid (fun y hy => by
          rw [List.take_add_one, HX.out, List.mem_append] at hy
          rcases hy with h | h
          · exact HA.out y h
          · simp at h; rw [h]; exact hpx)
        clear hpx
        go_wp2_with fail
        rw [HENT.out, Oper.upon_enter]
        refine HC.out.mono ?_
        rintro e w2 ⟨rfl, h2⟩
        have HB2 := hid (HBW.out.trans (h2.mono HBW.out.size))
        clear h2 d1 d2 d3 d4
        go_wp2
        go_roundw
        case rel => exact ⟨k + 1, by omega, by push_cast; rfl, HA2, HB2⟩
        case measure => simp [intOf]; omega
      | true =>
        rw [hpx] at HC
        have HE : Hid (fixI p l = k) := hid (fix_some HX.out hpx HA.out)
        clear hpx
        go_wp2_with fail
        rw [HENT.out, Oper.upon_enter]
        refine HC.out.mono ?_
        rintro e w2 ⟨rfl, h2⟩
        have HB2 := hid (HBW.out.trans (h2.mono HBW.out.size))
        clear h2 d1 d2 d3 d4
        go_wp2
        go_ret
        exact ⟨by rw [HE.out]; rfl, HB2.out⟩
    · obtain rfl : k = n := by omega
      have HE : Hid (fixI p l = -1) := hid (fix_none (by have h := HA.out; rw [List.take_of_length_le (by have := HN.out; omega)] at h; exact h))
      go_wp2
      go_ret
      exact ⟨by rw [HE.out]; rfl, HBW.out⟩
end Go.Proofs.YtmomeemkdfoklaaDoor
