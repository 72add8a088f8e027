/-
  PROVED: the card of StatCounts, up to the bulk: for every name and every list of hunks that read less than the bulk StatCounts returns true (what the program counts, and its error, are what the document asks), and nothing else changes. (The card: the row lists four package-level variables, of which the proof uses errors.errorType and the table of powers of ten.)
-/
import Derived.Test.YthnibchlgcgalaaGreatDoorBg
import Derived.Test.YthnibchlgcgalaaGreatDoorBh
import Derived.Test.YthnibchlgcgalaaGreatDoorHw
namespace Go.Proofs.YthnibchlgcgalaaGreatDoor.statCounts
open Go.ChangeShapes Go.WideShapes Go.ChangeAt Go.RowKit
open Go.ChangeMaps (open_string shut_string)
open Hu (Rw Hk)
open Sx

theorem size_data (x : ByteArray) : x.data.toList.length = x.size := Array.length_toList
set_option maxHeartbeats 4000000 in
set_option maxRecDepth 100000 in
theorem walk (nm : ByteArray) (v : Value) (l : List Hk) (w : World) (_hs : nm.size ≤ 1048576) (hr : RdH w v l) (_hw : ∀ c ∈ l, WfH c ∧ (∀ r ∈ c.rows, r.t.size ≤ maxLen) ∧ c.head.size ≤ maxLen) (hl : l.length ≤ 1048576) (hz : ∀ h ∈ l, SzH h) (ht : tR l ≤ 1048576) (_hA : ArgH w v l.length) (_hsh : ArgS v) (hg : RdyK w) :
    Calls Tryz.prog 3 #[.string nm, v] w fun e w' => e = .returned (.bool true) ∧ Below w.heap.size w w' := by
  have HA := hid (of_any nm hr hl hz ht)
  have HB := hid (fun w' (h : Below w.heap.size w w') => rOf_any nm (hr.below h) hl hz ht)
  have HG := hid hg
  have HW := hid (fun w' (h : Below w.heap.size w w') => Sx.works_any w' (HG.out.2.below h) (HG.out.1.later h))
  obtain ⟨p, x, y, hv⟩ : ∃ (p : ByteArray) (x y : Int), ofV nm l = .agg #[.string p, .int .i64 x, .int .i64 y] := by
    cases h : allVld l with
    | false => exact ⟨_, _, _, (of_no h).1⟩
    | true => exact ⟨_, _, _, (of_yes h).1⟩
  have HNm : Hid (∀ w', Below w.heap.size w w' → Calls Tryz.prog 7 #[errV (Sx.ofN l)] w' fun e w2 => e = .returned (.int .i64 (Sx.ofN l : Nat)) ∧ Below w'.heap.size w' w2) := hid (fun w' h => by
    cases hh : allVld l with
    | false => rw [(of_no (nm := nm) hh).2]; exact num_errno 100 w' (HG.out.2.below h)
    | true => rw [(of_yes (nm := nm) hh).2]; exact num_nil w')
  rw [hv] at HA HB
  obtain ⟨er, her⟩ : ∃ er, er = errV (Sx.ofN l) := ⟨_, rfl⟩
  rw [← her] at HA HNm
  generalize Sx.ofN l = k at HB HNm
  obtain ⟨a, cp, rfl⟩ := hr.shape
  obtain ⟨n, hnn⟩ : ∃ n, n = l.length := ⟨_, rfl⟩
  rw [← hnn] at HA HB ⊢
  have z1 : (x == x) = true := zeq rfl
  have z2 : (y == y) = true := zeq rfl
  have z3 : ((k : Int) == (k : Int)) = true := zeq rfl
  clear hr _hw hl hz ht _hA _hsh hg hv her hnn _hs
  go_enter Tryz.func3, Tryz.ntmps3
  go_wp2_with fail
  refine HA.out.mono ?_
  rintro e w1 ⟨rfl, hb1⟩
  have HN1 := hid (one_new w1 (ctO p x y))
  have HB1 := hid (hb1.trans (HN1.out.1.mono hb1.size))
  clear hb1 HA
  go_wp2_with fail
  obtain ⟨E1, hE1⟩ : ∃ E, E = w1.heap.size := ⟨_, rfl⟩
  rw [← hE1]
  rw [← hE1] at HN1
  have HK1 := hid HN1.out.2
  clear HN1 hE1
  generalize w1.alloc (.cells #[.string p, .int .i64 x, .int .i64 y] 24) = w2 at HB1 HK1 ⊢
  refine (HB.out w2 HB1.out).mono ?_
  rintro e w3 ⟨rfl, hb3⟩
  have HN3 := hid (one_new w3 (ctR p x y))
  have HB3 := hid (HB1.out.trans ((hb3.trans (HN3.out.1.mono hb3.size)).mono HB1.out.size))
  have HK3 : Hid ((w3.alloc (ctR p x y)).heap[E1]? = some (ctO p x y)) := hid (((hb3.trans (HN3.out.1.mono hb3.size)).block E1 (lt_of_heap HK1.out)).trans HK1.out)
  clear hb3 HB HB1 HK1
  have a0 : (w3.alloc (.cells #[.string p, .int .i64 x, .int .i64 y] 29)).cell? ⟨E1, 0, none⟩ = some (.string p) := cell_of_blk HK3.out 0
  have a1 : (w3.alloc (.cells #[.string p, .int .i64 x, .int .i64 y] 29)).cell? ⟨E1, 1, none⟩ = some (.int .i64 x) := cell_of_blk HK3.out 1
  have a2 : (w3.alloc (.cells #[.string p, .int .i64 x, .int .i64 y] 29)).cell? ⟨E1, 2, none⟩ = some (.int .i64 y) := cell_of_blk HK3.out 2
  have c0 : (w3.alloc (.cells #[.string p, .int .i64 x, .int .i64 y] 29)).cell? ⟨w3.heap.size, 0, none⟩ = some (.string p) := cell_of_blk HN3.out.2 0
  have c1 : (w3.alloc (.cells #[.string p, .int .i64 x, .int .i64 y] 29)).cell? ⟨w3.heap.size, 1, none⟩ = some (.int .i64 x) := cell_of_blk HN3.out.2 1
  have c2 : (w3.alloc (.cells #[.string p, .int .i64 x, .int .i64 y] 29)).cell? ⟨w3.heap.size, 2, none⟩ = some (.int .i64 y) := cell_of_blk HN3.out.2 2
  clear HN3
  go_wp2_with fail
  generalize (w3.alloc (.cells #[.string p, .int .i64 x, .int .i64 y] 29)) = w4 at HB3 HK3 ⊢
  refine (HNm.out w4 HB3.out).mono ?_
  rintro e w5 ⟨rfl, hb5⟩
  have HB5 := hid (HB3.out.trans (hb5.mono HB3.out.size))
  clear hb5 HB3 a0 a1 a2 c0 c1 c2
  go_wp2_with fail
  refine (HW.out w5 HB5.out).mono ?_
  rintro e w6 ⟨rfl, hb6⟩
  have HB6 := hid (HB5.out.trans (hb6.mono HB5.out.size))
  clear hb6
  go_wp2_with fail
  go_ret
  exact ⟨rfl, HB6.out⟩

theorem own : ownKnob Tryz.prog.godebug = none := by kernel_rfl

set_option maxRecDepth 100000 in
theorem contract (H : Type) (enc : TypeId × Value → H) (W : World) (base : Nat) (args : Array Value) (ds gs : List (DataW H)) (before : List MemPlace)
    (hval : ∀ (j : Nat) t v, Tryz.f3.params[j]? = some t → args[j]? = some v → Value.okWide Tryz.prog W .any base t v)
    (hW : DataW.Whole enc Tryz.prog Tryz.f3.params.toList Rows.statCountsSpec.vars false W args.toList ds gs before)
    (hk : Rows.uptoSmall H (ds ++ gs) = true)
    (hL : laidMetH Tryz.prog Rows.statCountsUptoRow.laid W)
    : Calls Tryz.prog 3 args W fun e W' => ∃ v, e = .returned v ∧ Rows.statCountsSpec.post enc Tryz.prog Tryz.f3 false true false false W args v W' := by
  have hW' := hW
  obtain ⟨p, q, hA0, hV, rfl, hfz, hnd⟩ := hW
  have hA : DataW.TrodAll enc Tryz.prog W 0 (fun _ => true) true Tryz.f3.params.toList args.toList ds p := hA0
  rw [Tryz.params3] at hA hval
  obtain ⟨v0, vs0, d0, ds0, p0, q0, hargs0, rfl, rfl, h0, r0⟩ := trodAll_cons hA
  obtain ⟨v1, vs1, d1, ds1, p1, q1, hargs1, rfl, rfl, h1, r1⟩ := trodAll_cons r0
  obtain ⟨rfl, rfl, rfl⟩ := trodAll_nil r1
  obtain rfl : args = #[v0, v1] := by cases args; simp_all
  obtain ⟨rfl, rfl⟩ := trodVars_none hV
  obtain ⟨x0, rfl, rfl, rfl, hmax0⟩ := open_string Tryz.underlying9 (hval 0 9 v0 rfl rfl) h0
  obtain ⟨x1, hr1, hw1, hd1, hAH1, hsh1⟩ := open_hks (okWide_slice Tryz.underlying22 (hval 1 22 v1 rfl rfl)) h1
  clear hA0
  simp only [List.append_nil] at hW' hk
  have hk' : Rows.uptoBulkAll (H := H) [DataW.lit (.string x0.data.toList), d1] ≤ 1048576 := of_decide_eq_true hk
  simp only [Rows.uptoBulkAll, Rows.uptoBulk] at hk'
  have hls0 : x0.data.toList.length = x0.size := size_data x0
  obtain ⟨hlen1, htr1, hz1⟩ := hks_upto hd1 hw1 (by omega)
  have hlt1 : ∀ x ∈ p1, x.block < W.heap.size := fun x hx => by simpa using hW'.lt x (by simp [hx])
  refine (walk x0 v1 x1 W (by omega) hr1 hw1 hlen1 hz1 htr1 hAH1 hsh1 (ready_of hL)).mono fun e W' ⟨he, hb⟩ => ?_
  subst he
  exact ⟨_, rfl, _, _, _, [], ([] ++ (p1 ++ [])), [], hW', trodAll_cons_mk (shut_bool Tryz.underlying4 _) trodAll_mk0, trodAll_cons_mk (shut_string Tryz.underlying9 hmax0) (trodAll_cons_mk (Below.trod laidOut (by kernel_rfl) (of_decide_eq_true (by kernel_rfl)) h1 hb hlt1) trodAll_mk0), rfl, hb.frame _, fun h => by cases h⟩

set_option maxRecDepth 100000 in
theorem lifted (os : Os) (started : os.Started) (H : Type) (enc : TypeId × Value → H) (F : Stop.Interp) :
    ReturnsInHanded {} Tryz.checked os 3 .any ((Rows.OpenSpec.upto Rows.statCountsSpec).preRow enc Tryz.prog Tryz.f3 Rows.statCountsUptoRow.domain false Rows.statCountsUptoRow.laid) (((Rows.OpenSpec.upto Rows.statCountsSpec).at F).post enc Tryz.prog Tryz.f3 false true false false) := by
  refine returnsInHanded_of_row (C := Tryz.checked) (s := Rows.OpenSpec.upto Rows.statCountsSpec) own started (by kernel_rfl) Tryz.func3
    (witness_row_at (enc := enc) (C := Tryz.checked) false
      (laidWorld os)
      #[.string .empty, .slice none 0 0] rfl (by kernel_rfl) (by kernel_rfl) (by kernel_rfl)
      (OpenSpec.preRow_of_cond 8 (x := ([.lit (.string []), .nil], [], [])) (by kernel_rfl) (by kernel_rfl) (fun k hk => by cases hk; kernel_rfl) (by kernel_rfl) (laidWorld_met os _))) ?_
  intro W base args ds gs before hval hW _ hcond hsz hL _ _
  exact contract H enc W base args ds gs before hval hW (hcond _ rfl) hL

theorem said : Rows.StatCountsUptoSaid :=
  OpenClaim.holds_of_cond 3 Tryz.f3 rfl rfl rfl rfl rfl rfl rfl ⟨rfl, rfl, rfl, rfl, rfl⟩ rfl rfl rfl rfl rfl (by kernel_rfl) Tryz.func3 (by kernel_rfl)
    (of_decide_eq_true (by kernel_rfl)) (by unfold Func.isWrapper; first | (rw [if_pos (by decide +kernel)]; kernel_rfl) | (rw [if_neg (by decide +kernel)]; exact ⟨rfl, rfl⟩))
    (fun os started H enc _ F => by rw [OpenClaim.pre_eq_preRow]; exact lifted os started H enc F)

theorem plain (f : FuncId) (fn : Func) (hf : Tryz.pinned.checked.prog.funcNamed Rows.statCountsUptoRow.func = some f) (hfn : Tryz.pinned.checked.prog.funcs[f]? = some fn) :
    true = Tryz.pinned.checked.prog.looks [] ∧ ∀ (j : Nat) t, fn.params[j]? = some t → Tryz.pinned.checked.prog.wantsStandIn t = false := by
  obtain rfl : f = 3 := Option.some.inj ((show Tryz.prog.funcNamed Rows.statCountsUptoRow.func = some 3 by kernel_rfl).symm.trans hf) |>.symm
  obtain rfl : fn = Tryz.f3 := (Option.some.inj (Tryz.func3.symm.trans hfn)).symm
  refine ⟨by kernel_rfl, fun j t ht => ?_⟩
  rw [Tryz.params3] at ht
  have hm : t = 9 ∨ t = 22 := by simpa using Array.mem_of_getElem? ht
  rcases hm with rfl | rfl
  · exact (show Tryz.prog.wantsStandIn 9 = false by kernel_rfl)
  · exact (show Tryz.prog.wantsStandIn 22 = false by kernel_rfl)

theorem card : Rows.StatCountsUptoCardSaid :=
  Claim7.holds_tied_plain_at .later [] _ _ _ _ said (fun _ h => by cases h) (by kernel_rfl) (fun _ h => by cases h) statCountsUpto_row_tie rfl ⟨rfl, rfl⟩ (by kernel_rfl) rfl plain (by kernel_rfl)
end Go.Proofs.YthnibchlgcgalaaGreatDoor.statCounts
