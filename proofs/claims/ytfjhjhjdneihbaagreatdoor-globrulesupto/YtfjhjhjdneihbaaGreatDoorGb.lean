/-
  The walks of a set's counterpart, of the functions that tell a class's bytes.
-/
import Derived.Test.YtfjhjhjdneihbaaGreatDoorGa
import Derived.Shelf.GgClosure.Gives
import Derived.Laws.EntriesVeiled
namespace Go.Proofs.YtfjhjhjdneihbaaGreatDoor
open Go.RowKit

theorem agg4 {a b c d a' b' c' d' : Int} (h1 : a = a') (h2 : b = b') (h3 : c = c') (h4 : d = d') : Ending.returned (.agg #[.int .u64 a, .int .u64 b, .int .u64 c, .int .u64 d]) = .returned (.agg #[.int .u64 a', .int .u64 b', .int .u64 c', .int .u64 d']) := by
  rw [h1, h2, h3, h4]

set_option maxHeartbeats 2000000 in
theorem others_any (f : UInt8 → Bool) (w : World) :
    Calls Tryz.prog 72 #[flV f] w fun e w' => e = .returned (flV (Pg.turn true f)) ∧ Below w.heap.size w w' := by
  have b0 := hid (bits_not_wd f 0)
  have b1 := hid (bits_not_wd f 1)
  have b2 := hid (bits_not_wd f 2)
  have b3 := hid (bits_not_wd f 3)
  unfold flV flC
  go_enter Tryz.func72, Tryz.ntmps72
  go_wp2
  refine wp_loop_rounds 5 ?_
  rw [rounds_succ]
  go_wp2
  rw [rounds_succ]
  go_wp2
  rw [rounds_succ]
  go_wp2
  rw [rounds_succ]
  go_wp2
  rw [rounds_succ]
  go_wp2
  refine bodyPost_ret (v := .agg #[.int .u64 (bits .xor .u64 18446744073709551615 (wd f 0)), .int .u64 (bits .xor .u64 18446744073709551615 (wd f 1)), .int .u64 (bits .xor .u64 18446744073709551615 (wd f 2)), .int .u64 (bits .xor .u64 18446744073709551615 (wd f 3))]) (by simp [results, Tryz.results72, go_sem, IntKind.max, IntKind.signed, IntKind.bits]) rfl ⟨agg4 b0.out b1.out b2.out b3.out, ?_⟩
  exact ((Below.refl _ _).alloc (Nat.le_refl _) _).alloc (by simp) _

/-! ### functions that tell bytes -/
/-- a function's value that tells the bytes of p, from this world on -/
def Tells (w : World) (v : Value) (p : UInt8 → Bool) : Prop :=
  ∃ (g : Nat) (lb : Array Value), v = .func (.func g) #[] lb ∧ (∀ args w, (callFunc g args).run Tryz.prog w = .ok (.enter g args) w) ∧ PredAt Tryz.prog g lb (fun c : UInt8 => .int .u8 c.toNat) p w
theorem Tells.later {w w' : World} {v : Value} {p : UInt8 → Bool} (h : Tells w v p) (hb : Below w.heap.size w w') : Tells w' v p := by
  obtain ⟨g, lb, hv, he, hp⟩ := h
  exact ⟨g, lb, hv, he, hp.later hb⟩
/-- a row of such values -/
def Kinds (w : World) (v : Value) (ps : List (UInt8 → Bool)) : Prop :=
  ∃ (b : Nat) (vs : List Value) (c : Nat), v = .slice (some ⟨b, 0, none⟩) ps.length c ∧ ps.length ≤ c ∧ b < w.heap.size ∧ vs.length = ps.length ∧ (∀ (j : Nat) x, vs[j]? = some x → w.cell? ⟨b, j, none⟩ = some x) ∧ ∀ (j : Nat) x p, vs[j]? = some x → ps[j]? = some p → Tells w x p
theorem Kinds.later {w w' : World} {v : Value} {ps : List (UInt8 → Bool)} (h : Kinds w v ps) (hb : Below w.heap.size w w') : Kinds w' v ps := by
  obtain ⟨b, vs, c, hv, hc, hlt, hl, hx, hp⟩ := h
  exact ⟨b, vs, c, hv, hc, Nat.lt_of_lt_of_le hlt hb.size, hl, fun j x hj => (hb.cell (p := ⟨b, j, none⟩) hlt).trans (hx j x hj), fun j x p h1 h2 => (hp j x p h1 h2).later hb⟩
theorem lt_of_cell {w : World} {b o : Nat} {v : Value} (h : w.cell? ⟨b, o, none⟩ = some v) : b < w.heap.size := World.block_lt_of_cell? w ⟨b, o, none⟩ h

set_option maxHeartbeats 1000000 in
theorem between1_any (b1 b2 : Nat) (lo hi c : UInt8) (w : World) (h1 : w.cell? ⟨b1, 0, none⟩ = some (.int .u8 lo.toNat)) (h2 : w.cell? ⟨b2, 0, none⟩ = some (.int .u8 hi.toNat)) :
    Calls Tryz.prog 110 #[.int .u8 c.toNat, .pointer (some ⟨b1, 0, none⟩), .pointer (some ⟨b2, 0, none⟩)] w fun e w' => e = .returned (.bool (Pg.bt lo.toNat hi.toNat c)) ∧ ∃ q, w' = w.drewN q := by
  by_cases h : lo.toNat ≤ c.toNat
  · have HB : Hid (decide (c.toNat ≤ hi.toNat) = Pg.bt lo.toNat hi.toNat c) := hid (by unfold Pg.bt; rw [decide_eq_true h]; rfl)
    go_enter Tryz.func110, Tryz.ntmps110
    go_wp2
    go_ret
    exact ⟨ret_bool HB.out, 0, rfl⟩
  · have HB : Hid (false = Pg.bt lo.toNat hi.toNat c) := hid (by unfold Pg.bt; rw [decide_eq_false h]; rfl)
    go_enter Tryz.func110, Tryz.ntmps110
    go_wp2
    go_ret
    exact ⟨ret_bool HB.out, 0, rfl⟩

set_option maxHeartbeats 1000000 in
theorem between_any (lo hi : UInt8) (w : World) :
    Calls Tryz.prog 105 #[.int .u8 lo.toNat, .int .u8 hi.toNat] w fun e w' => ∃ v, e = .returned v ∧ Tells w' v (Pg.bt lo.toNat hi.toNat) ∧ Below w.heap.size w w' := by
  go_enter Tryz.func105, Tryz.ntmps105
  go_wp2
  go_ret
  refine ⟨_, rfl, ⟨_, _, rfl, enters_of Tryz.func110 (by kernel_rfl) rfl, fun W c hb => ?_⟩, ((Below.refl _ _).alloc (Nat.le_refl _) _).alloc (by simp) _⟩
  refine between1_any w.heap.size (w.heap.size + 1) lo hi c W ?_ ?_
  · rw [hb.cell (p := ⟨w.heap.size, 0, none⟩) (by simp; omega)]; simp
  · rw [hb.cell (p := ⟨w.heap.size + 1, 0, none⟩) (by simp)]; simp

def anyP (ps : List (UInt8 → Bool)) (c : UInt8) : Bool := ps.any fun p => p c
theorem anyP_hit {ps : List (UInt8 → Bool)} {k : Nat} {p : UInt8 → Bool} {c : UInt8} (hp : ps[k]? = some p) (h : p c = true) : true = anyP ps c :=
  (List.any_eq_true.2 ⟨p, List.mem_of_getElem? hp, h⟩).symm
theorem anyP_snoc {ps : List (UInt8 → Bool)} {k : Nat} {p : UInt8 → Bool} {c : UInt8} (hp : ps[k]? = some p) (h : p c = false) (ha : anyP (ps.take k) c = false) : anyP (ps.take (k + 1)) c = false := by
  unfold anyP at ha ⊢
  rw [List.take_add_one, hp, List.any_append, ha]
  simp [h]
theorem anyP_last {ps : List (UInt8 → Bool)} {k : Nat} {c : UInt8} (h : ps.length ≤ k) (ha : anyP (ps.take k) c = false) : false = anyP ps c := by
  rw [List.take_of_length_le h] at ha
  exact ha.symm

set_option maxHeartbeats 1000000 in
theorem either1_any (bk : Nat) (vk : Value) (ps : List (UInt8 → Bool)) (c : UInt8) (w : World) (hk : w.cell? ⟨bk, 0, none⟩ = some vk) (h : Kinds w vk ps) (hn : ps.length ≤ 1000) :
    Calls Tryz.prog 111 #[.int .u8 c.toNat, .pointer (some ⟨bk, 0, none⟩)] w fun e w' => e = .returned (.bool (anyP ps c)) ∧ ∃ q, w' = w.drewN q := by
  obtain ⟨b, vs, cp, rfl, hc, hlt, hl, hx, hp⟩ := h
  have HX := hid hx
  have HP := hid hp
  have HL := hid hl
  clear hx hp hl
  go_enter Tryz.func111, Tryz.ntmps111
  go_wp2
  go_loopw [5, 8] (fun _ i wr => ∃ k : Nat, k ≤ ps.length ∧ i = .int .i64 k ∧ (∃ q, wr = w.drewN q) ∧ Hid (anyP (ps.take k) c = false)) (fun _ i _ => ps.length - (intOf i).toNat)
  case atStart => exact ⟨0, Nat.zero_le _, rfl, ⟨0, rfl⟩, (rfl : anyP (ps.take 0) c = false)⟩
  case round =>
    obtain ⟨k, hk', rfl, ⟨q, rfl⟩, HA⟩ := hrel
    by_cases hkl : k < ps.length
    · obtain ⟨p, hpk⟩ : ∃ p, ps[k]? = some p := ⟨_, List.getElem?_eq_getElem hkl⟩
      obtain ⟨x, hxk⟩ : ∃ x, vs[k]? = some x := ⟨_, List.getElem?_eq_getElem (by rw [HL.out]; exact hkl)⟩
      obtain ⟨g, lb, rfl, eg, hT⟩ := HP.out k x p hxk hpk
      have cx : (w.drewN q).cell? ⟨b, k, none⟩ = some (.func (.func g) #[] lb) := HX.out k _ hxk
      have cS := hT (w.drewN q) c (below_drewN (Below.refl _ _) q)
      have HPk := hid hpk
      clear hpk hxk hT
      generalize hW : w.drewN q = W at cx cS
      have HW := hid hW
      clear hW
      cases hc' : p c with
      | true =>
        have HF := hid (anyP_hit HPk.out hc')
        rw [hc'] at cS
        clear hc'
        go_wp2_with (go_at_fn g; refine cS.mono ?_; rintro e w2 ⟨rfl, q2, rfl⟩)
        go_ret
        exact ⟨ret_bool HF.out, q + q2, by rw [← HW.out]; exact World.drewN_drewN _ _ _⟩
      | false =>
        have HF := hid (anyP_snoc HPk.out hc' HA.out)
        rw [hc'] at cS
        clear hc'
        go_wp2_with (go_at_fn g; refine cS.mono ?_; rintro e w2 ⟨rfl, q2, rfl⟩)
        go_roundw
        case rel => exact ⟨k + 1, by omega, by go_num, ⟨q + q2, by rw [← HW.out]; exact World.drewN_drewN _ _ _⟩, HF⟩
        case measure => simp [intOf]; omega
    · have HF := hid (anyP_last (by omega) HA.out)
      go_wp2
      go_ret
      exact ⟨ret_bool HF.out, q, rfl⟩

set_option maxHeartbeats 1000000 in
theorem either_any (vk : Value) (ps : List (UInt8 → Bool)) (w : World) (h : Kinds w vk ps) (hn : ps.length ≤ 1000) :
    Calls Tryz.prog 106 #[vk] w fun e w' => ∃ v, e = .returned v ∧ Tells w' v (anyP ps) ∧ Below w.heap.size w w' := by
  have HK := hid h
  obtain ⟨b, vs, cp, rfl, _⟩ := h
  go_enter Tryz.func106, Tryz.ntmps106
  go_wp2
  go_ret
  have hb0 : Below w.heap.size w (w.alloc (.cells #[.slice (some ⟨b, 0, none⟩) ps.length cp] 189)) := (Below.refl _ _).alloc (Nat.le_refl _) _
  refine ⟨_, rfl, ⟨_, _, rfl, enters_of Tryz.func111 (by kernel_rfl) rfl, fun W c hb => ?_⟩, hb0⟩
  refine either1_any w.heap.size _ ps c W ?_ ((HK.out.later hb0).later hb) hn
  rw [hb.cell (p := ⟨w.heap.size, 0, none⟩) (by simp)]; simp

set_option maxHeartbeats 1000000 in
theorem blank_any (c : UInt8) (w : World) : Calls Tryz.prog 107 #[.int .u8 c.toNat] w fun e w' => e = .returned (.bool (Pg.cBlank c)) ∧ ∃ q, w' = w.drewN q := by
  by_cases h : c.toNat = 9
  · have HB : Hid (true = Pg.cBlank c) := hid (by unfold Pg.cBlank; rw [decide_eq_true h]; rfl)
    have h1 := ieq (m := 9) (by omega : (c.toNat : Int) = 9)
    clear h
    go_enter Tryz.func107, Tryz.ntmps107
    go_wp2
    go_ret
    exact ⟨ret_bool HB.out, 0, rfl⟩
  · have HB : Hid (((c.toNat : Int) == 32) = Pg.cBlank c) := hid (by
      unfold Pg.cBlank
      rw [decide_eq_false h, Bool.false_or, Bool.eq_iff_iff, beq_iff_eq, decide_eq_true_eq]
      omega)
    have h1 := ine (m := 9) (by omega : (c.toNat : Int) ≠ 9)
    clear h
    go_enter Tryz.func107, Tryz.ntmps107
    go_wp2
    all_goals go_ret
    all_goals exact ⟨ret_bool HB.out, 0, rfl⟩
set_option maxHeartbeats 1000000 in
theorem cntrl_any (c : UInt8) (w : World) : Calls Tryz.prog 109 #[.int .u8 c.toNat] w fun e w' => e = .returned (.bool (Pg.cCntrl c)) ∧ ∃ q, w' = w.drewN q := by
  by_cases h : c.toNat < 32
  · have HB : Hid (true = Pg.cCntrl c) := hid (by unfold Pg.cCntrl; rw [decide_eq_true h]; rfl)
    go_enter Tryz.func109, Tryz.ntmps109
    go_wp2
    go_ret
    exact ⟨ret_bool HB.out, 0, rfl⟩
  · have HB : Hid ((decide ((c.toNat : Int) < 32) || ((c.toNat : Int) == 127)) = Pg.cCntrl c) := hid (by
      unfold Pg.cCntrl
      rw [decide_eq_false h, decide_eq_false (by omega), Bool.false_or, Bool.false_or, Bool.eq_iff_iff, beq_iff_eq, decide_eq_true_eq]
      omega)
    go_enter Tryz.func109, Tryz.ntmps109
    go_wp2
    all_goals go_ret
    all_goals exact ⟨ret_bool HB.out, 0, rfl⟩
set_option maxHeartbeats 1000000 in
theorem punct_any (bg ba : Nat) (vg va : Value) (c : UInt8) (w : World) (hg : w.cell? ⟨bg, 0, none⟩ = some vg) (ha : w.cell? ⟨ba, 0, none⟩ = some va) (tg : Tells w vg Pg.cGraph) (ta : Tells w va Pg.cAlnum) :
    Calls Tryz.prog 108 #[.int .u8 c.toNat, .pointer (some ⟨bg, 0, none⟩), .pointer (some ⟨ba, 0, none⟩)] w fun e w' => e = .returned (.bool (Pg.cPunct c)) ∧ ∃ q, w' = w.drewN q := by
  obtain ⟨g, lb, rfl, eg, hT⟩ := tg
  obtain ⟨g2, lb2, rfl, eg2, hT2⟩ := ta
  have cS := hT w c (Below.refl _ _)
  have HT2 := hid hT2
  clear hT hT2
  cases h : Pg.cGraph c with
  | true =>
    rw [h] at cS
    have HB : Hid ((!Pg.cAlnum c) = Pg.cPunct c) := hid (by unfold Pg.cPunct; rw [h]; rfl)
    clear h
    go_enter Tryz.func108, Tryz.ntmps108
    go_wp2_with (first | (go_at_fn g; refine cS.mono ?_; rintro e w2 ⟨rfl, q2, rfl⟩) | (go_at_fn g2; refine (HT2.out _ c (below_drewN (Below.refl _ _) _)).mono ?_; rintro e w3 ⟨rfl, q3, rfl⟩))
    go_ret
    exact ⟨ret_bool HB.out, _, rfl⟩
  | false =>
    rw [h] at cS
    have HB : Hid (false = Pg.cPunct c) := hid (by unfold Pg.cPunct; rw [h]; rfl)
    clear h
    go_enter Tryz.func108, Tryz.ntmps108
    go_wp2_with (go_at_fn g; refine cS.mono ?_; rintro e w2 ⟨rfl, q2, rfl⟩)
    go_ret
    exact ⟨ret_bool HB.out, _, rfl⟩
end Go.Proofs.YtfjhjhjdneihbaaGreatDoor
