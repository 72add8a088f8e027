/-
  The walk of 'works', which every law of this layer asks: it answers true.
-/
import Derived.Test.YtmcifffhihiekaaDoorQ6
import Derived.Test.YtmcifffhihiekaaDoorNum
namespace Go.Proofs.YtmcifffhihiekaaDoor
open Go.RowKit

theorem works_read (w : World) : Calls Tryd.prog 13 #[.string ⟨#[34, 97, 92, 116, 98, 34, 32, 120]⟩] w fun e w' =>
    e = .returned (.tuple #[.string ⟨#[97, 9, 98]⟩, .string ⟨#[32, 120]⟩, .nilIface]) ∧ Below w.heap.size w w' := by
  have h : Pq.unq (ByteArray.mk #[34, 97, 92, 116, 98, 34, 32, 120]).data.toList = some ([97, 9, 98], [32, 120]) :=
    Pq.back_quoted [97, 9, 98] [32, 120] (by decide)
  exact (unquote_any _ w (by decide)).mono fun e w' ⟨he, hb⟩ => ⟨by rw [he, h]; rfl, hb⟩
theorem works_none (w : World) : Calls Tryd.prog 13 #[.string ⟨#[34, 97]⟩] w fun e w' =>
    e = .returned (.tuple #[.string ⟨#[]⟩, .string ⟨#[]⟩, .iface 45 (.int .i64 20)]) ∧ Below w.heap.size w w' := by
  have h : Pq.unq (ByteArray.mk #[34, 97]).data.toList = none := by
    show Pq.rq [] [97] = none
    rw [Pq.rq_some [] [] 97 97 1 (by decide) (by decide) (by decide)]
    exact Pq.rq_nil _
  exact (unquote_any _ w (by decide)).mono fun e w' ⟨he, hb⟩ => ⟨by rw [he, h]; rfl, hb⟩
theorem works_quoted (w : World) : Calls Tryd.prog 10 #[.string ⟨#[97, 32, 98]⟩] w fun e w' => e = .returned (.string ⟨#[34, 97, 32, 98, 34]⟩) ∧ Below w.heap.size w w' :=
  (quote_any _ w (by decide)).mono fun e w' ⟨he, hb⟩ => ⟨by rw [he]; exact congrArg (fun l : List UInt8 => Ending.returned (.string ⟨l.toArray⟩)) (show Pq.quote [97, 32, 98] = [34, 97, 32, 98, 34] by decide), hb⟩
theorem works_plain (w : World) : Calls Tryd.prog 10 #[.string ⟨#[97, 47, 98]⟩] w fun e w' => e = .returned (.string ⟨#[97, 47, 98]⟩) ∧ Below w.heap.size w w' :=
  (quote_any _ w (by decide)).mono fun e w' ⟨he, hb⟩ => ⟨by rw [he]; exact congrArg (fun l : List UInt8 => Ending.returned (.string ⟨l.toArray⟩)) (show Pq.quote [97, 47, 98] = [97, 47, 98] by decide), hb⟩

set_option maxHeartbeats 1000000 in
theorem works_any (w : World) (hg : ErrVar w) : Calls Tryd.prog 12 #[] w fun e w' => e = .returned (.bool true) ∧ Below w.heap.size w w' := by
  have HG := hid hg
  clear hg
  go_enter Tryd.func12, Tryd.ntmps12
  go_wp2_with fail
  refine (works_read _).mono ?_
  rintro e w1 ⟨rfl, hb1⟩
  go_wp2_with fail
  refine (works_none _).mono ?_
  rintro e w2 ⟨rfl, hb2⟩
  go_wp2_with fail
  refine (works_quoted _).mono ?_
  rintro e w3 ⟨rfl, hb3⟩
  go_wp2_with fail
  refine (works_plain _).mono ?_
  rintro e w4 ⟨rfl, hb4⟩
  have HG4 := hid ((((HG.out.below hb1).below hb2).below hb3).below hb4)
  go_wp2_with fail
  refine (num_errno 20 _ HG4.out).mono ?_
  rintro e w5 ⟨rfl, hb5⟩
  go_wp2
  go_ret
  have z1 := hb1.size
  have z2 := hb2.size
  have z3 := hb3.size
  have z4 := hb4.size
  exact ⟨rfl, hb1.trans ((hb2.mono z1).trans ((hb3.mono (by omega)).trans ((hb4.mono (by omega)).trans (hb5.mono (by omega)))))⟩
end Go.Proofs.YtmcifffhihiekaaDoor
