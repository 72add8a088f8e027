/-
  A struct of four ints as an argument: opened and shut.
-/
import Derived.ProofKit
import Derived.OpenShut
namespace Go.Proofs.YthnibchlgcgalaaDoor.Sx
open Go.ChangeShapes Go.WideShapes Go.ChangeAt Go.RowKit

section
variable {H : Type} {enc : TypeId × Value → H} {P : Program} {w : World} {base : Nat} {sp : Nat → Bool} {held : Bool}
theorem open_bar {t ts : TypeId} {f0 f1 f2 f3 : Field} {v : Value} {d : DataW H} {ps : List MemPlace} (ht : P.underlying t = some (.struct #[f0, f1, f2, f3])) (hs : P.underlying ts = some (.int .i64))
    (e0 : f0.type = ts ∧ f0.offset = 0) (e1 : f1.type = ts ∧ f1.offset = 1) (e2 : f2.type = ts ∧ f2.offset = 2) (e3 : f3.type = ts ∧ f3.offset = 3) (hc : P.cellsOf ts = 1) (hC : P.cellsOf t = 4)
    (hd : DataW.Trod enc P w base sp held t v d ps) :
    ∃ a b c e : Int, v = .agg #[.int .i64 a, .int .i64 b, .int .i64 c, .int .i64 e] ∧ d = .agg [.lit (.int .i64 a), .lit (.int .i64 b), .lit (.int .i64 c), .lit (.int .i64 e)] ∧ ps = [] ∧
      (Lit.int .i64 a).wf = true ∧ (Lit.int .i64 b).wf = true ∧ (Lit.int .i64 c).wf = true ∧ (Lit.int .i64 e).wf = true := by
  obtain ⟨fuel, hf⟩ := hd
  obtain ⟨xs, n, _, hx, hl, hlen, hfs⟩ := DataW.trod_struct ht hf
  rw [hC] at hl
  have g0 := hfs 0 f0 rfl
  have g1 := hfs 1 f1 rfl
  have g2 := hfs 2 f2 rfl
  have g3 := hfs 3 f3 rfl
  rw [e0.1, e0.2, hc] at g0
  rw [e1.1, e1.2, hc] at g1
  rw [e2.1, e2.2, hc] at g2
  rw [e3.1, e3.2, hc] at g3
  have hv : ∃ cs : Array Value, v = .agg cs ∧ cs.toList = v.cells.toList := by
    cases v with
    | agg cs => exact ⟨cs, rfl, rfl⟩
    | _ => simp [Value.cells] at hl
  obtain ⟨cs, rfl, _⟩ := hv
  have hcs : (Value.agg cs).cells.toList = cs.toList := rfl
  rw [hcs] at hl g0 g1 g2 g3
  obtain ⟨l⟩ := cs
  match l, hl with
  | [v0, v1, v2, v3], _ =>
    match xs, hlen with
    | [y0, y1, y2, y3], _ =>
      obtain ⟨a, ha, ya, sa⟩ := DataW.trod_int hs (show DataW.trod enc P w base sp held n ts [v0] = some y0 from g0)
      obtain ⟨b, hb, yb, sb⟩ := DataW.trod_int hs (show DataW.trod enc P w base sp held n ts [v1] = some y1 from g1)
      obtain ⟨c, hc', yc, sc⟩ := DataW.trod_int hs (show DataW.trod enc P w base sp held n ts [v2] = some y2 from g2)
      obtain ⟨e, he, ye, se⟩ := DataW.trod_int hs (show DataW.trod enc P w base sp held n ts [v3] = some y3 from g3)
      cases ha
      cases hb
      cases hc'
      cases he
      subst ya yb yc ye
      simp only [Prod.mk.injEq] at hx
      exact ⟨a, b, c, e, rfl, hx.1, hx.2, sa, sb, sc, se⟩
theorem shut_bar {t ts : TypeId} {f0 f1 f2 f3 : Field} {a b c e : Int} (ht : P.underlying t = some (.struct #[f0, f1, f2, f3])) (hs : P.underlying ts = some (.int .i64))
    (e0 : f0.type = ts ∧ f0.offset = 0) (e1 : f1.type = ts ∧ f1.offset = 1) (e2 : f2.type = ts ∧ f2.offset = 2) (e3 : f3.type = ts ∧ f3.offset = 3) (hc : P.cellsOf ts = 1) (hC : P.cellsOf t = 4)
    (ha : (Lit.int .i64 a).wf = true) (hb : (Lit.int .i64 b).wf = true) (hc' : (Lit.int .i64 c).wf = true) (he : (Lit.int .i64 e).wf = true) :
    DataW.Trod enc P w base sp held t (.agg #[.int .i64 a, .int .i64 b, .int .i64 c, .int .i64 e]) (.agg [.lit (.int .i64 a), .lit (.int .i64 b), .lit (.int .i64 c), .lit (.int .i64 e)]) [] := by
  have key : ∀ s : Int, (Lit.int .i64 s).wf = true → DataW.trod enc P w base sp held 1 ts [.int .i64 s] = some (.lit (.int .i64 s), []) := fun s h => by simp [DataW.trod, hs, h]
  refine ⟨2, ?_⟩
  have := trod_struct_mk (enc := enc) (w := w) (base := base) (spare := sp) (held := held) (n := 1) (cs := [.int .i64 a, .int .i64 b, .int .i64 c, .int .i64 e])
    (xs := [(.lit (.int .i64 a), []), (.lit (.int .i64 b), []), (.lit (.int .i64 c), []), (.lit (.int .i64 e), [])]) ht (by rw [hC]; rfl)
    (by simp [e0.1, e0.2, e1.1, e1.2, e2.1, e2.2, e3.1, e3.2, hc, key a ha, key b hb, key c hc', key e he])
  have e4 : (Value.agg #[.int .i64 a, .int .i64 b, .int .i64 c, .int .i64 e]).cells.toList = [.int .i64 a, .int .i64 b, .int .i64 c, .int .i64 e] := rfl
  rw [e4]
  simpa using this
end
end Go.Proofs.YthnibchlgcgalaaDoor.Sx
