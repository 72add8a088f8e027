/-
  The walk of 'works', which every law of this layer asks: it answers true.
-/
import Derived.Test.YtfjhjhjdneihbaaGreatDoorGk
import Derived.Test.YtfjhjhjdneihbaaGreatDoorNum
namespace Go.Proofs.YtfjhjhjdneihbaaGreatDoor
open Go.RowKit

def wPat : List UInt8 := [42, 46, 91, 97, 45, 99, 111, 93]
theorem w_all : ((Pg.comp wPat).map fun P => (Pg.mt P [120, 46, 111], Pg.mt P [46, 98], Pg.mt P [120, 46, 100])) = some (true, true, false) := by decide +kernel
theorem w_none : (Pg.comp [91, 97]).isNone = true := by decide +kernel
theorem w_esc : Pg.esc [97, 42] = [97, 92, 42] := by decide +kernel

/-- the errors' variable and the heap go on -/
theorem compile_lit {l : List UInt8} {P : List Pg.Pt} (h : Pg.comp l = some P) (hl : l.length ≤ 1024) (w : World) :
    Calls Tryz.prog 25 #[.string ⟨l.toArray⟩] w fun e w' => ∃ bg, e = .returned (.tuple #[.pointer (some ⟨bg, 0, none⟩), .nilIface]) ∧ GlobAt w' bg P ∧ Below w.heap.size w w' := by
  refine (compile_any ⟨l.toArray⟩ w (by rw [size_mk]; exact hl)).mono ?_
  rintro e w' ⟨hc, hb⟩
  rw [bs, h] at hc
  rcases hc with ⟨h1, _⟩ | ⟨P', bg, h1, h2, h3⟩
  · cases h1
  · cases h1
    exact ⟨bg, h2, h3, hb⟩
theorem compile_bad {l : List UInt8} (h : Pg.comp l = none) (hl : l.length ≤ 1024) (w : World) :
    Calls Tryz.prog 25 #[.string ⟨l.toArray⟩] w fun e w' => e = .returned (.tuple #[.pointer none, globErr]) ∧ Below w.heap.size w w' := by
  refine (compile_any ⟨l.toArray⟩ w (by rw [size_mk]; exact hl)).mono ?_
  rintro e w' ⟨hc, hb⟩
  rw [bs, h] at hc
  rcases hc with ⟨_, h1⟩ | ⟨P', bg, h1, _⟩
  · exact ⟨h1, hb⟩
  · cases h1

set_option maxHeartbeats 4000000 in
set_option maxRecDepth 100000 in
theorem works_any (w : World) (hg : ErrVar w) : Calls Tryz.prog 9 #[] w fun e w' => e = .returned (.bool true) ∧ Below w.heap.size w w' := by
  have HG := hid hg
  clear hg
  obtain ⟨P, hP⟩ : ∃ P, Pg.comp wPat = some P := by
    have := w_all
    cases h : Pg.comp wPat with
    | none => rw [h] at this; cases this
    | some P => exact ⟨P, rfl⟩
  have hm := w_all
  rw [hP] at hm
  simp only [Option.map_some, Option.some.injEq, Prod.mk.injEq] at hm
  obtain ⟨m1, m2, m3⟩ := hm
  have hPl : P.length ≤ 140737488355328 := by
    have := comp_len _ _ _ (Nat.le_refl _) hP
    have e : wPat.length = 8 := rfl
    omega
  have hN : Pg.comp [91, 97] = none := by
    have := w_none
    cases h : Pg.comp [91, 97] with
    | none => rfl
    | some _ => rw [h] at this; cases this
  have HP := hid hP
  have HN := hid hN
  have M1 := hid m1
  have M2 := hid m2
  have M3 := hid m3
  clear hP hN m1 m2 m3
  go_enter Tryz.func9, Tryz.ntmps9
  go_wp2_with fail
  refine (compile_lit (l := wPat) HP.out (by decide) _).mono ?_
  rintro e w1 ⟨bg, rfl, hg1, hb1⟩
  have HG1 := hid hg1
  clear hg1
  go_wp2_with fail
  refine (compile_bad (l := [91, 97]) HN.out (by decide) _).mono ?_
  rintro e w2 ⟨rfl, hb2⟩
  have HG2 := hid (HG1.out.later hb2)
  have HE2 := hid ((HG.out.below hb1).below hb2)
  have hB2 := hb1.trans (hb2.mono hb1.size)
  clear HG1 hb1 hb2
  unfold globErr
  go_wp2_with fail
  refine (num_errno 40 _ HE2.out).mono ?_
  rintro e w3 ⟨rfl, hb3⟩
  have HG3 := hid (HG2.out.later hb3)
  have hB3 := hB2.trans (hb3.mono hB2.size)
  clear HG2 hB2 hb3
  go_wp2_with fail
  refine (match_any ⟨#[120, 46, 111]⟩ HG3.out (by decide) hPl).mono ?_
  rintro e w4 ⟨rfl, hb4⟩
  rw [show (ByteArray.mk #[120, 46, 111]).data.toList = [120, 46, 111] from rfl, M1.out]
  have HG4 := hid (HG3.out.later hb4)
  have hB4 := hB3.trans (hb4.mono hB3.size)
  clear HG3 hB3 hb4
  go_wp2_with fail
  refine (match_any ⟨#[46, 98]⟩ HG4.out (by decide) hPl).mono ?_
  rintro e w5 ⟨rfl, hb5⟩
  rw [show (ByteArray.mk #[46, 98]).data.toList = [46, 98] from rfl, M2.out]
  have HG5 := hid (HG4.out.later hb5)
  have hB5 := hB4.trans (hb5.mono hB4.size)
  clear HG4 hB4 hb5
  go_wp2_with fail
  refine (match_any ⟨#[120, 46, 100]⟩ HG5.out (by decide) hPl).mono ?_
  rintro e w6 ⟨rfl, hb6⟩
  rw [show (ByteArray.mk #[120, 46, 100]).data.toList = [120, 46, 100] from rfl, M3.out]
  have hB6 := hB5.trans (hb6.mono hB5.size)
  clear HG5 hB5 hb6
  go_wp2_with fail
  refine (escape_any ⟨#[97, 42]⟩ _ (by decide)).mono ?_
  rintro e w7 ⟨rfl, hb7⟩
  rw [show (ByteArray.mk #[97, 42]).data.toList = [97, 42] from rfl, w_esc]
  have hB7 := hB6.trans (hb7.mono hB6.size)
  clear hB6 hb7
  go_wp2
  go_ret
  exact ⟨rfl, hB7⟩
end Go.Proofs.YtfjhjhjdneihbaaGreatDoor
