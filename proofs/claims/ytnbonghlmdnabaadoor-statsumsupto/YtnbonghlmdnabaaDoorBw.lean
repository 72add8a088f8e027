/-
  The laws' works.
-/
import Derived.Test.YtnbonghlmdnabaaDoorBt
import Derived.Test.YtnbonghlmdnabaaDoorNum
namespace Go.Proofs.YtnbonghlmdnabaaDoor.Sx
open Go.RowKit

def wkL : List Ct := [⟨⟨#[97]⟩, 3, 2⟩, ⟨⟨#[98]⟩, 0, 1⟩]
def wkN : List Ct := [⟨⟨#[]⟩, -1, 0⟩]
theorem dec_small {n : Nat} (h : n < 10) : dec (n : Int) = [UInt8.ofNat (48 + n)] := by
  unfold dec Lib.itoa
  rw [if_neg (by omega), Int.toNat_natCast, Lib.decDigits_one h]
theorem wk_cols : colsOf wkL 40 = ⟨1, 1, 33, 5⟩ := by
  have e1 : mostL wkL = ((5 : Nat) : Int) := by decide
  have e2 : nameW wkL = 1 := by decide +kernel
  unfold colsOf
  rw [e1, e2, dec_small (by decide)]
  rfl
theorem wk_row1 : row ⟨1, 1, 33, 5⟩ ⟨⟨#[97]⟩, 3, 2⟩ = [32, 97, 32, 124, 32, 53, 32, 43, 43, 43, 45, 45, 10] := by
  have e1 : q ⟨⟨#[97]⟩, 3, 2⟩ = [97] := by decide +kernel
  have e2 : dec ((3 : Int) + 2) = [53] := dec_small (n := 5) (by decide)
  have e3 : bar 3 2 33 5 = (3, 2) := bar_fit ⟨by decide, by decide, by decide, by decide, by decide, by decide, by decide, by decide⟩ (by decide)
  unfold row
  simp only
  rw [e1, e2, e3]
  rfl
theorem wk_row2 : row ⟨1, 1, 33, 5⟩ ⟨⟨#[98]⟩, 0, 1⟩ = [32, 98, 32, 124, 32, 49, 32, 45, 10] := by
  have e1 : q ⟨⟨#[98]⟩, 0, 1⟩ = [98] := by decide +kernel
  have e2 : dec ((0 : Int) + 1) = [49] := dec_small (n := 1) (by decide)
  have e3 : bar 0 1 33 5 = (0, 1) := bar_fit ⟨by decide, by decide, by decide, by decide, by decide, by decide, by decide, by decide⟩ (by decide)
  unfold row
  simp only
  rw [e1, e2, e3]
  rfl
theorem wk_total : total wkL = [32, 50, 32, 102, 105, 108, 101, 115, 32, 99, 104, 97, 110, 103, 101, 100, 44, 32, 51, 32, 105, 110, 115, 101, 114, 116, 105, 111, 110, 115, 40, 43, 41, 44, 32, 51, 32, 100, 101, 108, 101, 116, 105, 111, 110, 115, 40, 45, 41, 10] := by
  have e1 : sumA wkL = 3 := by decide
  have e2 : sumD wkL = 3 := by decide
  have e3 : dec (3 : Int) = [51] := dec_small (n := 3) (by decide)
  have e4 : dec ((wkL.length : Nat) : Int) = [50] := dec_small (n := 2) (by decide)
  unfold total cnt
  rw [e1, e2, e3, e4]
  rfl
theorem wk_table : table wkL 40 = [32, 97, 32, 124, 32, 53, 32, 43, 43, 43, 45, 45, 10] ++ [32, 98, 32, 124, 32, 49, 32, 45, 10] ++ [32, 50, 32, 102, 105, 108, 101, 115, 32, 99, 104, 97, 110, 103, 101, 100, 44, 32, 51, 32, 105, 110, 115, 101, 114, 116, 105, 111, 110, 115, 40, 43, 41, 44, 32, 51, 32, 100, 101, 108, 101, 116, 105, 111, 110, 115, 40, 45, 41, 10] := by
  unfold table
  rw [wk_cols, wk_total]
  have e : rows ⟨1, 1, 33, 5⟩ wkL = row ⟨1, 1, 33, 5⟩ ⟨⟨#[97]⟩, 3, 2⟩ ++ row ⟨1, 1, 33, 5⟩ ⟨⟨#[98]⟩, 0, 1⟩ := by unfold rows wkL; simp
  rw [e, wk_row1, wk_row2]
theorem wk_ok : okL wkL = true := by decide +kernel
theorem wk_no : okL wkN = false := by decide +kernel
theorem wk_bar : bar 100 1 10 101 = (9, 1) := by
  rw [bar_gt ⟨by decide, by decide, by decide, by decide, by decide, by decide, by decide, by decide⟩ (by decide) (by decide)]
  decide
theorem wk_tabOk : tabOk wkL 40 = true := by unfold tabOk; rw [wk_ok]; decide
theorem wk_tabS : tabS wkL 40 = bB (table wkL 40) ∧ tabE wkL 40 = .nilIface := tab_yes wk_tabOk
theorem wk_nm : ∀ x ∈ wkL, x.nm.size ≤ 35184371999999 := fun x hx => by unfold wkL at hx; simp at hx; rcases hx with h | h <;> (rw [h]; decide)
theorem lit_rdK {w : World} {g : Nat} {cs : List Value} {t : TypeId} {n : Nat} (h : w.heap[g]? = some (.cells cs.toArray t)) : RdX w (.slice (some ⟨g, 0, none⟩) n n) n cs := by
  refine .inr ⟨g, 0, n, rfl, Nat.le_refl _, lt_of_heap h, fun j u hj => ?_⟩
  rw [Nat.zero_add, cell_of_blk h]
  simpa using hj
set_option maxHeartbeats 4000000 in
set_option maxRecDepth 100000 in
theorem works_any (w : World) (hg : ErrVar w) (hp : PowK w) : Calls Tryd.prog 10 #[] w fun e w' => e = .returned (.bool true) ∧ Below w.heap.size w w' := by
  have HG := hid hg
  have HP := hid hp
  have HN1 := hid (one_new w (.cells #[.string ⟨#[97]⟩, .int .i64 3, .int .i64 2, .string ⟨#[98]⟩, .int .i64 0, .int .i64 1] 38))
  clear hg hp
  obtain ⟨Z, hZ⟩ : ∃ Z, Z = tabS wkL 40 := ⟨_, rfl⟩
  have HZ : Hid (Z = bB (table wkL 40)) := hid (by rw [hZ]; exact wk_tabS.1)
  have HT := hid (fun w' (h : RdK w' (.slice (some ⟨w.heap.size, 0, none⟩) 2 2) wkL) (hp : PowK w') => table_any 40 h (by decide) hp wk_nm (fun _ => by decide +kernel) ⟨by decide, by decide⟩)
  rw [wk_tabS.2, ← hZ] at HT
  clear hZ
  go_enter Tryd.func10, Tryd.ntmps10
  go_wp2_with fail
  refine (HT.out _ (lit_rdK (cs := ctsC wkL) HN1.out.2) (HP.out.later HN1.out.1)).mono ?_
  rintro e w1 ⟨rfl, hb1⟩
  have HB1 := hid (HN1.out.1.trans (hb1.mono HN1.out.1.size))
  have HBar := hid (bar_any 100 1 10 101 w1 ⟨by decide, by decide⟩ ⟨by decide, by decide⟩ ⟨by decide, by decide⟩ ⟨by decide, by decide⟩)
  rw [wk_bar] at HBar
  have HN2 := hid (one_new w1 (.cells #[.string ⟨#[]⟩, .int .i64 (-1), .int .i64 0] 38))
  have HTN := hid (total_any (l := wkN) (lit_rdK (n := 1) (cs := ctsC wkN) HN2.out.2) (by decide) (HP.out.later (HB1.out.trans (HN2.out.1.mono HB1.out.size))))
  rw [tot_no wk_no, (all_no wk_no).2] at HTN
  have HB2 := hid (HB1.out.trans (HN2.out.1.mono HB1.out.size))
  clear hb1 HN1 HT HB1 HN2
  go_wp2_with fail
  refine HBar.out.mono ?_
  rintro e w2 ⟨rfl, rfl⟩
  clear HBar
  go_wp2_with fail
  generalize w2.alloc (.cells #[.string ⟨#[]⟩, .int .i64 (-1), .int .i64 0] 38) = w3 at HTN HB2 ⊢
  refine HTN.out.mono ?_
  rintro e w4 ⟨rfl, hb4⟩
  have HB4 := hid (HB2.out.trans (hb4.mono HB2.out.size))
  have HNum := hid (num_errno 1 w4 (HG.out.below HB4.out))
  clear hb4 HTN HB2
  have hz : (Z.toList == ([32, 97, 32, 124, 32, 53, 32, 43, 43, 43, 45, 45, 10, 32, 98, 32, 124, 32, 49, 32, 45, 10, 32, 50, 32, 102, 105, 108, 101, 115, 32, 99, 104, 97, 110, 103, 101, 100, 44, 32, 51, 32, 105, 110, 115, 101, 114, 116, 105, 111, 110, 115, 40, 43, 41, 44, 32, 51, 32, 100, 101, 108, 101, 116, 105, 111, 110, 115, 40, 45, 41, 10] : List UInt8)) = true := by
    rw [HZ.out, wk_table]
    decide +kernel
  have hz2 : Z.toList = ([32, 97, 32, 124, 32, 53, 32, 43, 43, 43, 45, 45, 10, 32, 98, 32, 124, 32, 49, 32, 45, 10, 32, 50, 32, 102, 105, 108, 101, 115, 32, 99, 104, 97, 110, 103, 101, 100, 44, 32, 51, 32, 105, 110, 115, 101, 114, 116, 105, 111, 110, 115, 40, 43, 41, 44, 32, 51, 32, 100, 101, 108, 101, 116, 105, 111, 110, 115, 40, 45, 41, 10] : List UInt8) := by simpa using hz
  go_wp2_with fail
  refine HNum.out.mono ?_
  rintro e w5 ⟨rfl, hb5⟩
  have HB5 := hid (HB4.out.trans (hb5.mono HB4.out.size))
  clear hb5 HNum HB4 hz hz2
  go_wp2_with fail
  go_ret
  exact ⟨rfl, HB5.out⟩
end Go.Proofs.YtnbonghlmdnabaaDoor.Sx
