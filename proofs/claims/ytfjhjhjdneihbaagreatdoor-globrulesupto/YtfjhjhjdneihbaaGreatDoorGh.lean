/-
  The walk of what reads a part.
-/
import Derived.Test.YtfjhjhjdneihbaaGreatDoorGg
import Derived.Deep.RegionWith
namespace Go.Proofs.YtfjhjhjdneihbaaGreatDoor
open Go.RowKit

/-- a part as the program holds it -/
def ptC (p : Pg.Pt) : Array Value := #[.int .u64 (wd p.set 0), .int .u64 (wd p.set 1), .int .u64 (wd p.set 2), .int .u64 (wd p.set 3), .bool p.star]
abbrev ptV (p : Pg.Pt) : Value := .agg (ptC p)
/-- a part and what stands behind it, or the error -/
def PrP (x : Option (Pg.Pt × List UInt8)) (e : Ending) : Prop :=
  (x = none ∧ ∃ q, e = .returned (.tuple #[ptV q, .string ⟨#[]⟩, globErr])) ∨ ∃ p r, x = some (p, r) ∧ e = .returned (.tuple #[ptV p, .string ⟨r.toArray⟩, .nilIface])
theorem rp_star {s : ByteArray} (h : 1 ≤ s.size) (h0 : s[0] = 42) : Pg.rp s.data.toList = some (⟨true, Pg.no⟩, s.data.toList.drop 1) := by
  rw [data1 s h, h0]; simp [Pg.rp]
theorem rp_any {s : ByteArray} (h : 1 ≤ s.size) (h0 : s[0] = 63) : Pg.rp s.data.toList = some (⟨false, Pg.turn true Pg.no⟩, s.data.toList.drop 1) := by
  rw [data1 s h, h0]; simp [Pg.rp]
theorem rp_set {s : ByteArray} (h : 1 ≤ s.size) (h0 : s[0] = 91) : Pg.rp s.data.toList = (Pg.rset (s.data.toList.drop 1)).map fun x => (⟨false, x.1⟩, x.2) := by
  rw [data1 s h, h0]; simp [Pg.rp]
theorem rp_byte {s : ByteArray} (h : 1 ≤ s.size) (h1 : s[0] ≠ 42) (h2 : s[0] ≠ 63) (h3 : s[0] ≠ 91) : Pg.rp s.data.toList = (Pg.rb s.data.toList).map fun x => (⟨false, Pg.addR Pg.no x.1 x.1⟩, x.2) := by
  rw [data1 s h]; simp only [Pg.rp]; rw [if_neg h1, if_neg h2, if_neg h3]
theorem byte_ne {c d : UInt8} (h : c ≠ d) {m : Int} (hm : m = d.toNat) : ((c.toNat : Int) == m) = false := by
  subst hm; exact beq_eq_false_iff_ne.2 fun e => h ((byte_iff c d).1 e)
theorem byte_eq {c d : UInt8} (h : c = d) {m : Int} (hm : m = d.toNat) : ((c.toNat : Int) == m) = true := by
  subst hm; subst h; exact beq_iff_eq.2 rfl

theorem no_part : (#[.int .u64 0, .int .u64 0, .int .u64 0, .int .u64 0, .bool false] : Array Value) = ptC ⟨false, Pg.no⟩ := by simp [ptC, wd_no]
theorem cells5 {w : World} {b : Nat} {p : Pg.Pt} {t : TypeId} (h : w.heap[b]? = some (.cells (ptC p) t (0, 0))) :
    w.cell? ⟨b, 0, none⟩ = some (.int .u64 (wd p.set 0)) ∧ w.cell? ⟨b, 1, none⟩ = some (.int .u64 (wd p.set 1)) ∧ w.cell? ⟨b, 2, none⟩ = some (.int .u64 (wd p.set 2)) ∧ w.cell? ⟨b, 3, none⟩ = some (.int .u64 (wd p.set 3)) ∧ w.cell? ⟨b, 4, none⟩ = some (.bool p.star) ∧
      w.frozen? ⟨b, 0, none⟩ = false ∧ w.frozen? ⟨b, 1, none⟩ = false ∧ w.frozen? ⟨b, 2, none⟩ = false ∧ w.frozen? ⟨b, 3, none⟩ = false ∧ w.frozen? ⟨b, 4, none⟩ = false :=
  ⟨cell_of_blk h 0, cell_of_blk h 1, cell_of_blk h 2, cell_of_blk h 3, cell_of_blk h 4, free_of_blk h 0, free_of_blk h 1, free_of_blk h 2, free_of_blk h 3, free_of_blk h 4⟩
/-- a byte's own set -/
theorem with_lit (c : UInt8) (W : World) {m : Int} (hm : m = c.toNat) :
    Calls Tryz.prog 75 #[.agg #[.int .u64 0, .int .u64 0, .int .u64 0, .int .u64 0], .int .u8 m, .int .u8 m] W fun e w' => e = .returned (.agg #[.int .u64 (wd (Pg.addR Pg.no c c) 0), .int .u64 (wd (Pg.addR Pg.no c c) 1), .int .u64 (wd (Pg.addR Pg.no c c) 2), .int .u64 (wd (Pg.addR Pg.no c c) 3)]) ∧ Below W.heap.size W w' := by
  subst hm
  rw [show (#[.int .u64 0, .int .u64 0, .int .u64 0, .int .u64 0] : Array Value) = flC Pg.no from no_cells]
  exact with_any Pg.no c c W
/-- all bytes, beside a part's box -/
theorem others_beside {W : World} {b : Nat} {p : Pg.Pt} {t : TypeId} (h : W.heap[b]? = some (.cells (ptC p) t (0, 0))) :
    Calls Tryz.prog 72 #[.agg #[.int .u64 0, .int .u64 0, .int .u64 0, .int .u64 0]] W fun e w' => e = .returned (.agg #[.int .u64 (wd (Pg.turn true Pg.no) 0), .int .u64 (wd (Pg.turn true Pg.no) 1), .int .u64 (wd (Pg.turn true Pg.no) 2), .int .u64 (wd (Pg.turn true Pg.no) 3)]) ∧ Below W.heap.size W w' ∧
      w'.cell? ⟨b, 0, none⟩ = some (.int .u64 (wd p.set 0)) ∧ w'.cell? ⟨b, 1, none⟩ = some (.int .u64 (wd p.set 1)) ∧ w'.cell? ⟨b, 2, none⟩ = some (.int .u64 (wd p.set 2)) ∧ w'.cell? ⟨b, 3, none⟩ = some (.int .u64 (wd p.set 3)) ∧ w'.cell? ⟨b, 4, none⟩ = some (.bool p.star) ∧
      w'.frozen? ⟨b, 0, none⟩ = false ∧ w'.frozen? ⟨b, 1, none⟩ = false ∧ w'.frozen? ⟨b, 2, none⟩ = false ∧ w'.frozen? ⟨b, 3, none⟩ = false ∧ w'.frozen? ⟨b, 4, none⟩ = false := by
  rw [show (#[.int .u64 0, .int .u64 0, .int .u64 0, .int .u64 0] : Array Value) = flC Pg.no from no_cells]
  refine (others_any Pg.no W).mono ?_
  rintro e w' ⟨rfl, hb⟩
  exact ⟨rfl, hb, cells5 ((hb.block _ (lt_of_heap h)).trans h)⟩

set_option maxHeartbeats 4000000 in
set_option maxRecDepth 100000 in
theorem readPart_any (s : ByteArray) (w : World) (h : 1 ≤ s.size) :
    Calls Tryz.prog 47 #[.string s] w fun e w' => PrP (Pg.rp s.data.toList) e ∧ Below w.heap.size w w' := by
  have hpos : 0 < s.size := by omega
  have hpos' : (1 : Int) ≤ (s.size : Int) := by omega
  have HE := hid (ext_drop s 1)
  have hb0 : Below w.heap.size w (w.alloc (.cells #[.int .u64 0, .int .u64 0, .int .u64 0, .int .u64 0, .bool false] 104)) := (Below.refl _ _).alloc (Nat.le_refl _) _
  have HB0 : Hid ((w.alloc (.cells #[.int .u64 0, .int .u64 0, .int .u64 0, .int .u64 0, .bool false] 104)).heap[w.heap.size]? = some (.cells (ptC ⟨false, Pg.no⟩) 104 (0, 0))) := hid ((heap_alloc_new _ _).trans (by rw [no_part]))
  by_cases h1 : s[0] = 42
  · have HR := hid (rp_star h h1)
    have t1 := byte_eq h1 (m := 42) rfl
    clear h1
    go_enter Tryz.func47, Tryz.ntmps47
    go_wp2
    go_region
    all_goals go_wp2
    refine bodyPost_ret (v := .tuple #[ptV ⟨true, Pg.no⟩, .string (s.extract 1 s.size), .nilIface]) (by simp [results, Tryz.results47, go_sem, ptC, wd_no]) rfl ⟨.inr ⟨_, _, HR.out, ret3 rfl (congrArg Value.string HE.out) rfl⟩, ?_⟩
    exact ((Below.refl _ _).alloc (Nat.le_refl _) _).drew
  · have t1 := byte_ne h1 (m := 42) rfl
    by_cases h2 : s[0] = 63
    · have HR := hid (rp_any h h2)
      have t2 := byte_eq h2 (m := 63) rfl
      clear h1 h2
      go_enter Tryz.func47, Tryz.ntmps47
      go_wp2
      generalize w.alloc (.cells #[.int .u64 0, .int .u64 0, .int .u64 0, .int .u64 0, .bool false] 104) = W at *
      have HB1 : Hid (W.drew.heap[w.heap.size]? = some (.cells (ptC ⟨false, Pg.no⟩) 104 (0, 0))) := HB0
      have hb1 : Below w.heap.size w W.drew := hb0.drew
      go_region_with (go_at_call 72; refine (others_beside HB1.out).mono ?_; rintro e w2 ⟨rfl, hb2, c0, c1, c2, c3, c4, f0, f1, f2, f3, f4⟩)
      all_goals go_wp2
      refine bodyPost_ret (v := .tuple #[ptV ⟨false, Pg.turn true Pg.no⟩, .string (s.extract 1 s.size), .nilIface]) (by simp [results, Tryz.results47, go_sem, ptC, c0, c1, c2, c3, c4]) rfl ⟨.inr ⟨_, _, HR.out, ret3 rfl (congrArg Value.string HE.out) rfl⟩, ?_⟩
      have hb3 := hb1.trans (hb2.mono hb1.size)
      exact ((((hb3.setCell (by simp) _).setCell (by simp) _).setCell (by simp) _).setCell (by simp) _).setCell (by simp) _
    · have t2 := byte_ne h2 (m := 63) rfl
      by_cases h3 : s[0] = 91
      · have HR := hid (rp_set h h3)
        have t3 := byte_eq h3 (m := 91) rfl
        have HX : Hid ((s.extract 1 s.size).data.toList = s.data.toList.drop 1) := hid (by rw [ext_drop s 1])
        clear h1 h2 h3
        go_enter Tryz.func47, Tryz.ntmps47
        go_wp2_with fail
        generalize w.alloc (.cells #[.int .u64 0, .int .u64 0, .int .u64 0, .int .u64 0, .bool false] 104) = W at *
        refine (readSet_any (s.extract 1 s.size) W).mono ?_
        rintro e w2 ⟨rfl, hb2⟩
        rw [HX.out]
        have HB2 := hid ((hb2.block _ (lt_of_heap HB0.out)).trans HB0.out)
        have hB2 := hb0.trans (hb2.mono hb0.size)
        have lt0 := lt_of_heap HB2.out
        clear hb0 hb2 HB0
        cases hr : Pg.rset (s.data.toList.drop 1) with
        | none =>
          rw [hr] at HR
          clear hr
          simp only [itT]
          rw [flV_eq Pg.no]
          obtain ⟨c0, c1, c2, c3, c4, f0, f1, f2, f3, f4⟩ := cells5 HB2.out
          have hn : ¬ w2.heap.size = w.heap.size := by omega
          have hsz := hB2.size
          go_wp2
          refine bodyPost_ret (v := .tuple #[ptV ⟨false, Pg.no⟩, .string ⟨#[]⟩, globErr]) (by simp [results, Tryz.results47, go_sem, ptC, c0, c1, c2, c3, c4, lt0]) rfl ⟨.inl ⟨HR.out, _, rfl⟩, ?_⟩
          exact (((((hB2.setCell (by simp) _).setCell (by simp) _).setCell (by simp) _).setCell (by simp) _).setCell (by simp) _).alloc (by simpa using hsz) _
        | some x =>
          obtain ⟨g, r⟩ := x
          rw [hr] at HR
          clear hr
          simp only [itT]
          rw [flV_eq g]
          obtain ⟨c0, c1, c2, c3, c4, f0, f1, f2, f3, f4⟩ := cells5 HB2.out
          have hn : ¬ w2.heap.size = w.heap.size := by omega
          have hsz := hB2.size
          go_wp2
          refine bodyPost_ret (v := .tuple #[ptV ⟨false, g⟩, .string ⟨r.toArray⟩, .nilIface]) (by simp [results, Tryz.results47, go_sem, ptC, c0, c1, c2, c3, c4, lt0]) rfl ⟨.inr ⟨_, _, HR.out, rfl⟩, ?_⟩
          exact (((((hB2.setCell (by simp) _).setCell (by simp) _).setCell (by simp) _).setCell (by simp) _).setCell (by simp) _).alloc (by simpa using hsz) _
      · have t3 := byte_ne h3 (m := 91) rfl
        have HR := hid (rp_byte h h1 h2 h3)
        clear h1 h2 h3
        go_enter Tryz.func47, Tryz.ntmps47
        go_wp2_with fail
        generalize w.alloc (.cells #[.int .u64 0, .int .u64 0, .int .u64 0, .int .u64 0, .bool false] 104) = W at *
        refine (readByte_any s W).mono ?_
        rintro e w2 ⟨rfl, hb2⟩
        have HB2 := hid ((hb2.block _ (lt_of_heap HB0.out)).trans HB0.out)
        have hB2 := hb0.trans (hb2.mono hb0.size)
        clear hb0 hb2 HB0
        cases hr : Pg.rb s.data.toList with
        | none =>
          rw [hr] at HR
          clear hr
          simp only [rbT]
          go_wp2_with fail
          refine (with_lit 0 w2 rfl).mono ?_
          rintro e w3 ⟨rfl, hb3⟩
          have HB3 := hid ((hb3.block _ (lt_of_heap HB2.out)).trans HB2.out)
          have hB3 := hB2.trans (hb3.mono hB2.size)
          clear hB2 hb3 HB2
          obtain ⟨c0, c1, c2, c3, c4, f0, f1, f2, f3, f4⟩ := cells5 HB3.out
          go_wp2
          refine bodyPost_ret (v := .tuple #[ptV ⟨false, Pg.addR Pg.no 0 0⟩, .string ⟨#[]⟩, globErr]) (by simp [results, Tryz.results47, go_sem, ptC, c0, c1, c2, c3, c4]) rfl ⟨.inl ⟨HR.out, _, rfl⟩, ?_⟩
          exact ((((hB3.setCell (by simp) _).setCell (by simp) _).setCell (by simp) _).setCell (by simp) _).setCell (by simp) _
        | some x =>
          obtain ⟨c, r⟩ := x
          rw [hr] at HR
          clear hr
          simp only [rbT]
          go_wp2_with fail
          refine (with_lit c w2 rfl).mono ?_
          rintro e w3 ⟨rfl, hb3⟩
          have HB3 := hid ((hb3.block _ (lt_of_heap HB2.out)).trans HB2.out)
          have hB3 := hB2.trans (hb3.mono hB2.size)
          clear hB2 hb3 HB2
          obtain ⟨c0, c1, c2, c3, c4, f0, f1, f2, f3, f4⟩ := cells5 HB3.out
          go_wp2
          refine bodyPost_ret (v := .tuple #[ptV ⟨false, Pg.addR Pg.no c c⟩, .string ⟨r.toArray⟩, .nilIface]) (by simp [results, Tryz.results47, go_sem, ptC, c0, c1, c2, c3, c4]) rfl ⟨.inr ⟨_, _, HR.out, rfl⟩, ?_⟩
          exact ((((hB3.setCell (by simp) _).setCell (by simp) _).setCell (by simp) _).setCell (by simp) _).setCell (by simp) _
end Go.Proofs.YtfjhjhjdneihbaaGreatDoor
