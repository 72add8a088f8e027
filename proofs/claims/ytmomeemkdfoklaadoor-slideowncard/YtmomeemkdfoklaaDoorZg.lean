/-
  The test of Blanks: are all lines of a change blank?
-/
import Derived.Test.YtmomeemkdfoklaaDoorZf
import Derived.Test.YtmomeemkdfoklaaDoorDc
import Derived.Test.YtmomeemkdfoklaaDoorC9
namespace Go.Proofs.YtmomeemkdfoklaaDoor
open Go.RowKit
open Ed (Ch Run Pr)

theorem cell_alloc {w : World} {a : Addr} {v : Value} (o : Obj) (h : w.cell? a = some v) : (w.alloc o).cell? a = some v := by
  obtain ⟨b, i, rfl, hb⟩ := addr_none4 h
  have h2 := ((Below.refl w.heap.size w).alloc (Nat.le_refl _) o).block b hb
  unfold World.cell? at h ⊢
  rw [h2]
  exact h
/-- a part of a row of strings -/
theorem rdS_sliced {w : World} {a : Option Addr} {n c : Nat} {l : List ByteArray} (h : RdX w (.slice a n c) n (l.map Value.string)) (hl : l.length = n) {x y : Nat} (hxy : x ≤ y) (hy : y ≤ n) :
    RdS w (.slice (if c = x then a else a.map (·.add x)) (y - x) (c - x)) ((l.drop x).take (y - x)) := by
  have hlen : ((l.drop x).take (y - x)).length = y - x := by rw [List.length_take, List.length_drop]; omega
  show RdX _ _ _ _
  rw [hlen]
  rcases Nat.eq_or_lt_of_le hxy with rfl | hlt
  · rw [Nat.sub_self]
    exact .inl ⟨rfl, _, _, rfl⟩
  · rcases h with ⟨hn, _⟩ | ⟨b, o, c', hv, hc, hb, hX⟩
    · omega
    · cases hv
      rw [if_neg (by omega)]
      refine .inr ⟨b, o + x, c - x, ?_, by omega, hb, fun j u hj => ?_⟩
      · show Value.slice (some ((⟨b, o, none⟩ : Addr).add x)) _ _ = _
        rw [Go.WideShapes.add_plain]
      · have hj' : (l.map Value.string)[x + j]? = some u := by
          rw [List.getElem?_map] at hj ⊢
          rw [List.getElem?_take] at hj
          split at hj
          · rw [List.getElem?_drop] at hj; exact hj
          · cases hj
        have := hX (x + j) u hj'
        rw [Nat.add_assoc]; exact this
/-- the lines of a change -/
def part (l : List ByteArray) (x n : Nat) : List ByteArray := (l.drop x).take n
/-- are all lines of a change blank? -/
def chB (a b : List ByteArray) (c : Ch) : Bool := allB (part a c.a.toNat c.n.toNat) && allB (part b c.b.toNat c.m.toNat)

set_option maxHeartbeats 2000000 in
set_option maxRecDepth 100000 in
theorem test_any {w : World} {va vb : Value} {a b : List ByteArray} {ga gb x n y m : Nat} (ha : RdS w va a) (hb : RdS w vb b) (hca : w.cell? ⟨ga, 0, none⟩ = some va) (hcb : w.cell? ⟨gb, 0, none⟩ = some vb)
    (hla : a.length ≤ 10000000) (hlb : b.length ≤ 10000000) (hsa : ∀ x ∈ a, x.size ≤ 140737488355327) (hsb : ∀ x ∈ b, x.size ≤ 140737488355327) (hx : x + n ≤ a.length) (hy : y + m ≤ b.length) :
    Calls Tryd.prog 24 #[chV ⟨x, n, y, m⟩, .pointer (some ⟨ga, 0, none⟩), .pointer (some ⟨gb, 0, none⟩)] w fun e w' => e = .returned (.bool (chB a b ⟨x, n, y, m⟩)) ∧ Below w.heap.size w w' := by
  obtain ⟨aa, ca, rfl⟩ := ha.shape
  obtain ⟨ab, cb, rfl⟩ := hb.shape
  have hcapA : a.length ≤ ca := by
    rcases ha with ⟨h0, _⟩ | ⟨_, _, _, hv, hc, _⟩
    · omega
    · cases hv; exact hc
  have hcapB : b.length ≤ cb := by
    rcases hb with ⟨h0, _⟩ | ⟨_, _, _, hv, hc, _⟩
    · omega
    · cases hv; exact hc
  have HA := hid ha
  have HB := hid hb
  have HSA := hid hsa
  have HSB := hid hsb
  clear ha hb hsa hsb
  have i1 : (0 : Int) ≤ (x : Int) := by omega
  have i2 : (x : Int) ≤ (x : Int) + (n : Int) := by omega
  have i3 : (x : Int) + (n : Int) ≤ (ca : Int) := by omega
  have i4 : IntKind.i64.wrap ((x : Int) + (n : Int)) = (x : Int) + (n : Int) := wrapOk (by omega) (by omega)
  have j1 : (0 : Int) ≤ (y : Int) := by omega
  have j2 : (y : Int) ≤ (y : Int) + (m : Int) := by omega
  have j3 : (y : Int) + (m : Int) ≤ (cb : Int) := by omega
  have j4 : IntKind.i64.wrap ((y : Int) + (m : Int)) = (y : Int) + (m : Int) := wrapOk (by omega) (by omega)
  have hb2 := (Below.refl w.heap.size w).alloc (Nat.le_refl _) (.cells #[.int .i64 x, .int .i64 n, .int .i64 y, .int .i64 m] 42)
  have q1 := cell_alloc (.cells #[.int .i64 x, .int .i64 n, .int .i64 y, .int .i64 m] 42) hca
  have q2 := cell_alloc (.cells #[.int .i64 x, .int .i64 n, .int .i64 y, .int .i64 m] 42) hcb
  have HP1 := hid (areBlank_any (rdS_sliced (HA.out.below hb2) rfl (x := x) (y := x + n) (by omega) hx) (by rw [List.length_take]; omega) (fun z hz => HSA.out z (List.mem_of_mem_drop (List.mem_of_mem_take hz))))
  have HP2 := hid (areBlank_any (rdS_sliced (HB.out.below hb2) rfl (x := y) (y := y + m) (by omega) hy) (by rw [List.length_take]; omega) (fun z hz => HSB.out z (List.mem_of_mem_drop (List.mem_of_mem_take hz))))
  have HE : Hid (chB a b ⟨x, n, y, m⟩ = (allB ((a.drop x).take (x + n - x)) && allB ((b.drop y).take (y + m - y)))) := hid (by unfold chB part; simp only [Int.toNat_natCast, Nat.add_sub_cancel_left])
  have HBW := hid hb2
  rw [HE.out]
  generalize allB ((a.drop x).take (x + n - x)) = P1 at HP1 ⊢
  generalize allB ((b.drop y).take (y + m - y)) = P2 at HP2 ⊢
  clear hb2 HE
  by_cases hax : ca = x
  · subst hax
    rw [if_pos rfl, Nat.sub_self, Nat.add_sub_cancel_left, show Value.slice aa n 0 = Value.slice aa 0 0 by rw [show n = 0 by omega]] at HP1
    by_cases hay : cb = y
    · subst hay
      rw [if_pos rfl, Nat.sub_self, Nat.add_sub_cancel_left, show Value.slice ab m 0 = Value.slice ab 0 0 by rw [show m = 0 by omega]] at HP2
      cases P1 with
      | true =>
        go_enter Tryd.func24, Tryd.ntmps24
        go_wp2_with fail
        refine HP1.out.mono ?_
        rintro e w2 ⟨rfl, h2⟩
        rw [h2]
        clear h2 w2
        go_wp2_with fail
        refine HP2.out.mono ?_
        rintro e w2 ⟨rfl, h2⟩
        rw [h2]
        clear h2 w2
        go_wp2
        go_ret
        exact ⟨by simp, HBW.out⟩
      | false =>
        go_enter Tryd.func24, Tryd.ntmps24
        go_wp2_with fail
        refine HP1.out.mono ?_
        rintro e w2 ⟨rfl, h2⟩
        rw [h2]
        clear h2 w2
        go_wp2
        go_ret
        exact ⟨by simp, HBW.out⟩
    · rw [if_neg hay, Nat.add_sub_cancel_left] at HP2
      cases P1 with
      | true =>
        go_enter Tryd.func24, Tryd.ntmps24
        go_wp2_with fail
        refine HP1.out.mono ?_
        rintro e w2 ⟨rfl, h2⟩
        rw [h2]
        clear h2 w2
        go_wp2_with fail
        refine HP2.out.mono ?_
        rintro e w2 ⟨rfl, h2⟩
        rw [h2]
        clear h2 w2
        go_wp2
        go_ret
        exact ⟨by simp, HBW.out⟩
      | false =>
        go_enter Tryd.func24, Tryd.ntmps24
        go_wp2_with fail
        refine HP1.out.mono ?_
        rintro e w2 ⟨rfl, h2⟩
        rw [h2]
        clear h2 w2
        go_wp2
        go_ret
        exact ⟨by simp, HBW.out⟩
  · rw [if_neg hax, Nat.add_sub_cancel_left] at HP1
    by_cases hay : cb = y
    · subst hay
      rw [if_pos rfl, Nat.sub_self, Nat.add_sub_cancel_left, show Value.slice ab m 0 = Value.slice ab 0 0 by rw [show m = 0 by omega]] at HP2
      cases P1 with
      | true =>
        go_enter Tryd.func24, Tryd.ntmps24
        go_wp2_with fail
        refine HP1.out.mono ?_
        rintro e w2 ⟨rfl, h2⟩
        rw [h2]
        clear h2 w2
        go_wp2_with fail
        refine HP2.out.mono ?_
        rintro e w2 ⟨rfl, h2⟩
        rw [h2]
        clear h2 w2
        go_wp2
        go_ret
        exact ⟨by simp, HBW.out⟩
      | false =>
        go_enter Tryd.func24, Tryd.ntmps24
        go_wp2_with fail
        refine HP1.out.mono ?_
        rintro e w2 ⟨rfl, h2⟩
        rw [h2]
        clear h2 w2
        go_wp2
        go_ret
        exact ⟨by simp, HBW.out⟩
    · rw [if_neg hay, Nat.add_sub_cancel_left] at HP2
      cases P1 with
      | true =>
        go_enter Tryd.func24, Tryd.ntmps24
        go_wp2_with fail
        refine HP1.out.mono ?_
        rintro e w2 ⟨rfl, h2⟩
        rw [h2]
        clear h2 w2
        go_wp2_with fail
        refine HP2.out.mono ?_
        rintro e w2 ⟨rfl, h2⟩
        rw [h2]
        clear h2 w2
        go_wp2
        go_ret
        exact ⟨by simp, HBW.out⟩
      | false =>
        go_enter Tryd.func24, Tryd.ntmps24
        go_wp2_with fail
        refine HP1.out.mono ?_
        rintro e w2 ⟨rfl, h2⟩
        rw [h2]
        clear h2 w2
        go_wp2
        go_ret
        exact ⟨by simp, HBW.out⟩
end Go.Proofs.YtmomeemkdfoklaaDoor
