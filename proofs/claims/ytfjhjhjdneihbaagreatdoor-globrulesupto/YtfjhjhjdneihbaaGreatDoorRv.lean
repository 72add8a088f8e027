/-
  What the program's Compile and the document's answer, side by side.
-/
import Derived.Test.YtfjhjhjdneihbaaGreatDoorRu
import Derived.Test.YtfjhjhjdneihbaaGreatDoorRx
namespace Go.Proofs.YtfjhjhjdneihbaaGreatDoor
open Go.RowKit

theorem cyes {s : ByteArray} {P : List Pg.Pt} (h : cmp s.data.toList = some P) (w : World) :
    Calls Tryz.prog 25 #[.string s] w fun e w' => ∃ bg, e = .returned (.tuple #[.pointer (some ⟨bg, 0, none⟩), .nilIface]) ∧ GlobAt w' bg P ∧ Below w.heap.size w w' := by
  refine (compile_all s w).mono ?_
  rintro e w' ⟨hc, hb⟩
  rcases hc with ⟨h1, _⟩ | ⟨P', bg, h1, _, h3, h4⟩
  · rw [h] at h1; cases h1
  · rw [h] at h1; cases h1; exact ⟨bg, h3, h4, hb⟩
theorem ryes {s : ByteArray} {P : List Pg.Pt} (h : cmp s.data.toList = some P) (w : World) :
    Calls Tryz.prog 35 #[.string s] w fun e w' => ∃ v, e = .returned (.tuple #[v, .int .i64 0]) ∧ OwnP w' w.heap.size v P ∧ Below w.heap.size w w' := by
  refine (refCompile_all s w).mono ?_
  rintro e w' ⟨hc, hb⟩
  rcases hc with ⟨h1, _⟩ | ⟨P', v, h1, _, h3, h4⟩
  · rw [h] at h1; cases h1
  · rw [h] at h1; cases h1; exact ⟨v, h3, h4, hb⟩
theorem cno {s : ByteArray} (h : cmp s.data.toList = none) (w : World) :
    Calls Tryz.prog 25 #[.string s] w fun e w' => e = .returned (.tuple #[.pointer none, .iface 36 (.int .i64 (cmpN s.data.toList))]) ∧ Below w.heap.size w w' := by
  refine (compile_all s w).mono ?_
  rintro e w' ⟨hc, hb⟩
  rcases hc with ⟨_, _, h3⟩ | ⟨P', bg, h1, _⟩
  · exact ⟨h3, hb⟩
  · rw [h] at h1; cases h1
theorem rno {s : ByteArray} (h : cmp s.data.toList = none) (w : World) :
    Calls Tryz.prog 35 #[.string s] w fun e w' => e = .returned (.tuple #[.slice none 0 0, .int .i64 (cmpN s.data.toList)]) ∧ Below w.heap.size w w' := by
  refine (refCompile_all s w).mono ?_
  rintro e w' ⟨hc, hb⟩
  rcases hc with ⟨_, _, h3⟩ | ⟨P', bg, h1, _⟩
  · exact ⟨h3, hb⟩
  · rw [h] at h1; cases h1
theorem cmpN_none {t : List UInt8} (h : cmp t = none) : cmpN t = 2 ∨ cmpN t = 40 := by
  unfold cmp at h
  unfold cmpN
  split at h
  · next hl => rw [if_pos hl]; exact .inl rfl
  · next hl => rw [if_neg hl, h]; exact .inr rfl
end Go.Proofs.YtfjhjhjdneihbaaGreatDoor
