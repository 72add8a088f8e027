/-
  PROVED: the card of PathOwn: for every string PathOwn returns true, and it reads afterwards as it read before; the card ties what errors.errorType and the two tables of unicode/utf8 hold to the program's text (a pruned copy of the project: the packages that this law loads).
-/
import Derived.Test.YtmlgggnjghkojabGreatDoorSu
import Derived.Test.YtmlgggnjghkojabGreatDoorR4
import Derived.Test.YtmlgggnjghkojabGreatDoorHd
namespace Go.Proofs.YtmlgggnjghkojabGreatDoor.pathOwn
open Go.ChangeShapes Go.WideShapes Go.ChangeAt Go.RowKit
open Go.ChangeMaps (open_string shut_string)

theorem spoilt_own {w : World} {B g n c : Nat} (h : ∃ ys, w.ownsRow B 9 1 (.slice (some ⟨g, 0, none⟩) n c) n ys) (j : Nat) (hj : j < n) :
    (∃ u, w.cell? ⟨g, j, none⟩ = some u) ∧ w.frozen? ⟨g, j, none⟩ = false ∧ ∀ u : Value, u.oneCell' = true → ∃ ys, (w.setCell ⟨g, j, none⟩ u).ownsRow B 9 1 (.slice (some ⟨g, 0, none⟩) n c) n ys := by
  obtain ⟨ys, h⟩ := h
  have hl := h.1
  refine ⟨⟨ys[j]'(by omega), ?_⟩, h.frozenAt j, fun u _ => ⟨_, (h.stored j u).1⟩⟩
  rw [h.cellAt j (by omega), List.getElem?_eq_getElem (by omega)]
theorem parts_len (l : List UInt8) : (Pp.parts l).1.length ≤ 4097 := by
  unfold Pp.parts
  have h1 := Pp.pieces_length l
  split
  · simp
  · split
    · simp
    · split
      · simp
      · split
        · simp
        · show (Pp.pieces l).length ≤ _; omega

set_option maxHeartbeats 4000000 in
set_option maxRecDepth 100000 in
theorem walk (s : ByteArray) (w : World) (_hs : s.size ≤ 140737488351232) (hg : Rdy w) :
    Calls Tryz.prog 3 #[.string s] w fun e w' => e = .returned (.bool true) ∧ Below w.heap.size w w' := by
  have HG := hid hg
  clear hg
  obtain ⟨i0, hi, hz0, hz1, hz2⟩ := info_parts Tryz.infoStr
  obtain ⟨L, hL⟩ : ∃ L, (Pp.parts s.data.toList).1 = L := ⟨_, rfl⟩
  have hLl : L.length ≤ 4097 := by rw [← hL]; exact parts_len _
  have hbl : (BL L).length ≤ 140737488355328 := by rw [BL_length]; omega
  have HL := hid hL
  clear hL
  go_enter Tryz.func3, Tryz.ntmps3
  go_wp2_with fail
  refine (parts_any s _ HG.out.max).mono ?_
  rintro e w1 ⟨v, rfl, hown1, hb1⟩
  rw [HL.out] at hown1
  rcases hown1.2 with ⟨rfl, hn0⟩ | ⟨g, cap0, cur, rfl, hbg, hh, hc0, hm0, hs0, ht0⟩
  · obtain ⟨ys, hown⟩ : ∃ ys, w1.ownsRow w.heap.size 9 1 (.slice none 0 0) 0 ys := ⟨[], World.ownsRow_nil _ _ _ _⟩
    have hge : ∀ k, (Value.slice none 0 0).ownBlock = some k → w.heap.size ≤ k := fun k hk => by cases hk
    have hb := hb1
    clear hown1 hn0 hb1
    go_wp2
    refine wp_loop_rounds 1 ?_
    rw [rounds_succ]
    go_wp2_with (at_builtin; refine wpList_append_own _ rfl _ _ 22 rfl w.heap.size 9 i0 (.string ⟨#[]⟩) 1 16 Tryz.underlying22 hi hz0 hz1 hz2 rfl (by decide) _ _ _ rfl (World.ownsRow.alloc hown _) ⟨w1.heap.size, 0, none⟩ 2 2 [.string ⟨#[109, 111, 114, 101]⟩, .string ⟨#[109, 111, 114, 101]⟩] rfl rfl ?c1 ?c2 ?c3 ?c4 ?c5 ?_)
    case c1 =>
      intro j u hj
      match j, hj with
      | 0, hj => simp at hj; subst hj; simp [Addr.add]
      | 1, hj => simp at hj; subst hj; simp [Addr.add]
    case c2 => intro u hu; simp at hu; subst hu; rfl
    case c3 => unfold maxLen; omega
    case c4 => omega
    case c5 => have := hb.size; simp; omega
    intro v' w3 hown3 hgrow3 hnil3
    have hb3 : Below w.heap.size w w3 := (hb.alloc (hb.size) _).grown hgrow3 (by have := hb.size; simp; omega) hge
    have hlen : ys.length = 0 := by have := hown.1; omega
    have hsh : ∃ g cap, v' = .slice (some ⟨g, 0, none⟩) (0 + 2) cap ∧ 0 + 2 ≤ cap ∧ g < w3.heap.size ∧ w3.cell? ⟨g, 0 + 1, none⟩ = some (.string ⟨#[109, 111, 114, 101]⟩) := by
      have h3 := hown3
      rcases hown3.2 with ⟨_, h0⟩ | ⟨g, cap, cur, hv, _, hh, hcap, _⟩
      · omega
      · subst hv
        refine ⟨g, cap, rfl, hcap, lt_of_heap hh, ?_⟩
        rw [h3.cellAt (0 + 1) (by omega), List.getElem?_append_right (by omega), hlen]
        have : 0 + 1 - 0 = 1 := by omega
        rw [this]; rfl
    obtain ⟨g', cap, hv', hcap, hg', hlast⟩ := hsh
    rw [hv']
    have HLA := hid hlast
    have HG3 := hid (HG.out.below hb3)
    have HB3 := hid hb3
    clear hown3 hgrow3 hnil3 hv' hlast hb hb3 HG
    go_wp2_with fail
    refine (parts_any s _ HG3.out.max).mono ?_
    rintro e w4 ⟨v4, rfl, hown4, hb4⟩
    rw [HL.out] at hown4
    have HR4 := hid (rd_own hown4)
    have HG4 := hid (HG3.out.below hb4)
    have HB4 := hid (HB3.out.trans (hb4.mono HB3.out.size))
    have HLA4 := hid ((hb4.cell (p := ⟨g', 0 + 1, none⟩) hg').trans HLA.out)
    have hg4 := Nat.lt_of_lt_of_le hg' hb4.size
    clear HG3 HB3 HLA hg' hb4 hown4
    go_wp2_with fail
    refine (refParts_any s _).mono ?_
    rintro e w5 ⟨v5, rfl, hown5, hb5⟩
    rw [HL.out] at hown5
    have HS5 := hid (rd_own hown5)
    have HR5 := hid (HR4.out.below hb5)
    have HG5 := hid (HG4.out.below hb5)
    have HB5 := hid (HB4.out.trans (hb5.mono HB4.out.size))
    have HLA5 := hid ((hb5.cell (p := ⟨g', 0 + 1, none⟩) hg4).trans HLA4.out)
    have hg5 := Nat.lt_of_lt_of_le hg4 hb5.size
    clear HG4 HB4 HLA4 hg4 hb5 hown5 HR4
    go_wp2_with fail
    refine (same_rd HR5.out HS5.out hbl).mono ?_
    rintro e w6 ⟨rfl, hb6⟩
    rw [decide_eq_true rfl]
    have hla6 := (hb6.cell (p := ⟨g', 0 + 1, none⟩) hg5).trans HLA5.out
    have HG6 := hid (HG5.out.below hb6)
    have HB6 := hid (HB5.out.trans (hb6.mono HB5.out.size))
    clear HG5 HB5 HLA5 hg5 hb6 HR5 HS5
    have hidx : ((0 : Int) + 2 - 1).toNat = 0 + 1 := by omega
    go_wp2_with fail
    refine (sure_any _ HG6.out).mono ?_
    rintro e w7 ⟨rfl, hb7⟩
    go_wp2
    go_ret
    exact ⟨rfl, HB6.out.trans (hb7.mono HB6.out.size)⟩
  · have hown : ∃ ys, w1.ownsRow w.heap.size 9 1 (.slice (some ⟨g, 0, none⟩) L.length cap0) L.length ys := ⟨_, hown1⟩
    generalize L.length = n at hLl hown hc0 ⊢
    have HO := hid hown
    clear hown1 hown hh hm0 hs0 ht0
    go_wp2
    go_loopw [5] (fun i wr => ∃ k : Nat, k ≤ n ∧ i = .int .i64 k ∧ (∃ ys, wr.ownsRow w.heap.size 9 1 (.slice (some ⟨g, 0, none⟩) n cap0) n ys) ∧ Below w.heap.size w wr) (fun i _ => n - (intOf i).toNat)
    case atStart => exact ⟨0, Nat.zero_le _, rfl, HO.out, hb1⟩
    case round =>
      obtain ⟨k, hk, rfl, hown, hb⟩ := hrel
      have HR := hid hown
      clear hown HO hb1
      by_cases hlt : k < n
      · obtain ⟨⟨u, hc⟩, hf, hst⟩ := spoilt_own HR.out k hlt
        have HS := hid hst
        clear hst
        go_wp2
        go_roundw
        case rel => exact ⟨k + 1, by omega, by go_num, HS.out _ rfl, hb.setCell (by exact hbg) _⟩
        case measure => simp [intOf]; omega
      · obtain ⟨ys, hown⟩ := HR.out
        have hge : ∀ k, (Value.slice (some ⟨g, 0, none⟩) n cap0).ownBlock = some k → w.heap.size ≤ k := fun k hk => by cases hk; exact hbg
        go_wp2_with (at_builtin; refine wpList_append_own _ rfl _ _ 22 rfl w.heap.size 9 i0 (.string ⟨#[]⟩) 1 16 Tryz.underlying22 hi hz0 hz1 hz2 rfl (by decide) _ _ _ rfl (World.ownsRow.alloc hown _) ⟨wr.heap.size, 0, none⟩ 2 2 [.string ⟨#[109, 111, 114, 101]⟩, .string ⟨#[109, 111, 114, 101]⟩] rfl rfl ?c1 ?c2 ?c3 ?c4 ?c5 ?_)
        case c1 =>
          intro j u hj
          match j, hj with
          | 0, hj => simp at hj; subst hj; simp [Addr.add]
          | 1, hj => simp at hj; subst hj; simp [Addr.add]
        case c2 => intro u hu; simp at hu; subst hu; rfl
        case c3 => unfold maxLen; omega
        case c4 => omega
        case c5 => have := hb.size; simp; omega
        intro v' w3 hown3 hgrow3 hnil3
        have hb3 : Below w.heap.size w w3 := (hb.alloc (hb.size) _).grown hgrow3 (by have := hb.size; simp; omega) hge
        have hlen : ys.length = n := by have := hown.1; omega
        have hsh : ∃ g cap, v' = .slice (some ⟨g, 0, none⟩) (n + 2) cap ∧ n + 2 ≤ cap ∧ g < w3.heap.size ∧ w3.cell? ⟨g, n + 1, none⟩ = some (.string ⟨#[109, 111, 114, 101]⟩) := by
          have h3 := hown3
          rcases hown3.2 with ⟨_, h0⟩ | ⟨g, cap, cur, hv, _, hh, hcap, _⟩
          · omega
          · subst hv
            refine ⟨g, cap, rfl, hcap, lt_of_heap hh, ?_⟩
            rw [h3.cellAt (n + 1) (by omega), List.getElem?_append_right (by omega), hlen]
            have : n + 1 - n = 1 := by omega
            rw [this]; rfl
        obtain ⟨g', cap, hv', hcap, hg', hlast⟩ := hsh
        rw [hv']
        have HLA := hid hlast
        have HG3 := hid (HG.out.below hb3)
        have HB3 := hid hb3
        clear hown3 hgrow3 hnil3 hv' hlast hb hb3 HG
        go_wp2_with fail
        refine (parts_any s _ HG3.out.max).mono ?_
        rintro e w4 ⟨v4, rfl, hown4, hb4⟩
        rw [HL.out] at hown4
        have HR4 := hid (rd_own hown4)
        have HG4 := hid (HG3.out.below hb4)
        have HB4 := hid (HB3.out.trans (hb4.mono HB3.out.size))
        have HLA4 := hid ((hb4.cell (p := ⟨g', n + 1, none⟩) hg').trans HLA.out)
        have hg4 := Nat.lt_of_lt_of_le hg' hb4.size
        clear HG3 HB3 HLA hg' hb4 hown4
        go_wp2_with fail
        refine (refParts_any s _).mono ?_
        rintro e w5 ⟨v5, rfl, hown5, hb5⟩
        rw [HL.out] at hown5
        have HS5 := hid (rd_own hown5)
        have HR5 := hid (HR4.out.below hb5)
        have HG5 := hid (HG4.out.below hb5)
        have HB5 := hid (HB4.out.trans (hb5.mono HB4.out.size))
        have HLA5 := hid ((hb5.cell (p := ⟨g', n + 1, none⟩) hg4).trans HLA4.out)
        have hg5 := Nat.lt_of_lt_of_le hg4 hb5.size
        clear HG4 HB4 HLA4 hg4 hb5 hown5 HR4
        go_wp2_with fail
        refine (same_rd HR5.out HS5.out hbl).mono ?_
        rintro e w6 ⟨rfl, hb6⟩
        rw [decide_eq_true rfl]
        have hla6 := (hb6.cell (p := ⟨g', n + 1, none⟩) hg5).trans HLA5.out
        have HG6 := hid (HG5.out.below hb6)
        have HB6 := hid (HB5.out.trans (hb6.mono HB5.out.size))
        clear HG5 HB5 HLA5 hg5 hb6 HR5 HS5
        have hidx : ((n : Int) + 2 - 1).toNat = n + 1 := by omega
        go_wp2_with fail
        refine (sure_any _ HG6.out).mono ?_
        rintro e w7 ⟨rfl, hb7⟩
        go_wp2
        go_ret
        exact ⟨rfl, HB6.out.trans (hb7.mono HB6.out.size)⟩

theorem own : ownKnob Tryz.prog.godebug = none := by kernel_rfl

set_option maxRecDepth 100000 in
theorem contract (H : Type) (enc : TypeId × Value → H) (W : World) (base : Nat) (args : Array Value) (ds gs : List (DataW H)) (before : List MemPlace)
    (hval : ∀ (j : Nat) t v, Tryz.f3.params[j]? = some t → args[j]? = some v → Value.okWide Tryz.prog W .any base t v)
    (hW : DataW.Whole enc Tryz.prog Tryz.f3.params.toList Rows.pathOwnSpec.vars false W args.toList ds gs before)
    (hsz : (DataW.weightsEach Tryz.prog (Tryz.f3.params.toList ++ Rows.pathOwnSpec.plain.varTypes Tryz.prog) (ds ++ gs)).all (· ≤ reachBytes) = true)
    (hL : laidMetH Tryz.prog Rows.pathOwnRow.laid W)
    (hSh : W.ShapedOpen Tryz.prog)
    : Calls Tryz.prog 3 args W fun e W' => ∃ v, e = .returned v ∧ Rows.pathOwnSpec.post enc Tryz.prog Tryz.f3 false true false false W args v W' := by
  have hW' := hW
  obtain ⟨p, q, hA0, hV, rfl, hfz, hnd⟩ := hW
  have hA : DataW.TrodAll enc Tryz.prog W 0 (fun _ => true) true Tryz.f3.params.toList args.toList ds p := hA0
  rw [Tryz.params3] at hA hval hsz
  obtain ⟨v0, vs0, d0, ds0, p0, q0, hargs0, rfl, rfl, h0, r0⟩ := trodAll_cons hA
  obtain ⟨rfl, rfl, rfl⟩ := trodAll_nil r0
  obtain rfl : args = #[v0] := by cases args; simp_all
  obtain ⟨rfl, rfl⟩ := trodVars_none hV
  obtain ⟨x0, rfl, rfl, rfl, hmax0⟩ := open_string Tryz.underlying9 (hval 0 9 v0 rfl rfl) h0
  have hlen0 : x0.size ≤ 140737488351232 := by
    have := sized_string hsz (j := 0) (t := 9) rfl rfl
    rwa [size_data] at this
  clear hA0 hsz
  simp only [List.append_nil] at hW'
  refine (walk x0 W hlen0 ⟨handle_of hL, max_of hSh⟩).mono fun e W' ⟨he, hb⟩ => ?_
  subst he
  exact ⟨_, rfl, _, _, _, [], [], [], hW', trodAll_cons_mk (shut_bool Tryz.underlying4 _) trodAll_mk0, trodAll_cons_mk (shut_string Tryz.underlying9 hmax0) trodAll_mk0, rfl, hb.frame _, fun h => by cases h⟩

set_option maxRecDepth 100000 in
theorem lifted (os : Os) (started : os.Started) (H : Type) (enc : TypeId × Value → H) (F : Stop.Interp) :
    ReturnsInHanded {} Tryz.checked os 3 .any ((OpenSpec.ofChange Rows.pathOwnSpec).preRow enc Tryz.prog Tryz.f3 Rows.pathOwnRow.domain false Rows.pathOwnRow.laid) (((OpenSpec.ofChange Rows.pathOwnSpec).at F).post enc Tryz.prog Tryz.f3 false true false false) := by
  refine returnsInHanded_of_row (C := Tryz.checked) (s := OpenSpec.ofChange Rows.pathOwnSpec) own started (by kernel_rfl) Tryz.func3
    (witness_row_at (enc := enc) (C := Tryz.checked) false
      { World.holding Tryz.prog os ⟨#[], #[], []⟩ with heap := ((((World.holding Tryz.prog os ⟨#[], #[], []⟩).heap.modify 0 fun
          | .cells _ t frozen => .cells #[.iface 94 (.agg #[.pointer (some ⟨4, 24, none⟩)])] t frozen
          | o => o).modify 2 fun
          | .cells _ t frozen => .cells firstCells t frozen
          | o => o).modify 3 fun
          | .cells _ t frozen => .cells rangeCells t frozen
          | o => o) }
      #[.string .empty] rfl (by kernel_rfl) (by kernel_rfl) (by kernel_rfl)
      (OpenSpec.preRow_of_cond 8 (x := ([.lit (.string [])], [], [])) (by kernel_rfl) (by kernel_rfl) (fun k hk => by cases hk) (by kernel_rfl) (laidMetH_of_parts (laidMet_of_run' 300 (by kernel_rfl) (by kernel_rfl)) (by kernel_rfl)))) ?_
  intro W base args ds gs before hval hW _ hcond hsz hL hSh _
  exact contract H enc W base args ds gs before hval hW hsz hL hSh

theorem said : Rows.PathOwnSaid :=
  OpenClaim.holds_of_cond 3 Tryz.f3 rfl rfl rfl rfl rfl rfl rfl ⟨rfl, rfl, rfl, rfl, rfl⟩ rfl rfl rfl rfl rfl (by kernel_rfl) Tryz.func3 (by kernel_rfl)
    (of_decide_eq_true (by kernel_rfl)) (by unfold Func.isWrapper; first | (rw [if_pos (by decide +kernel)]; kernel_rfl) | (rw [if_neg (by decide +kernel)]; exact ⟨rfl, rfl⟩))
    (fun os started H enc _ F => by rw [OpenClaim.pre_eq_preRow]; exact lifted os started H enc F)

theorem plain (f : FuncId) (fn : Func) (hf : Tryz.pinned.checked.prog.funcNamed Rows.pathOwnRow.func = some f) (hfn : Tryz.pinned.checked.prog.funcs[f]? = some fn) :
    true = Tryz.pinned.checked.prog.looks [] ∧ ∀ (j : Nat) t, fn.params[j]? = some t → Tryz.pinned.checked.prog.wantsStandIn t = false := by
  obtain rfl : f = 3 := Option.some.inj ((show Tryz.prog.funcNamed Rows.pathOwnRow.func = some 3 by kernel_rfl).symm.trans hf) |>.symm
  obtain rfl : fn = Tryz.f3 := (Option.some.inj (Tryz.func3.symm.trans hfn)).symm
  refine ⟨by kernel_rfl, fun j t ht => ?_⟩
  rw [Tryz.params3] at ht
  have hm : t = 9 := by simpa using Array.mem_of_getElem? ht
  rcases hm with rfl
  · exact (show Tryz.prog.wantsStandIn 9 = false by kernel_rfl)

theorem card : Rows.PathOwnCardSaid :=
  Claim7.holds_tied_plain_at .later [] _ _ _ _ said (fun _ h => by cases h) (by kernel_rfl) (fun _ h => by cases h) pathOwn_row_tie rfl ⟨rfl, rfl⟩ (by kernel_rfl) rfl plain (by kernel_rfl)
end Go.Proofs.YtmlgggnjghkojabGreatDoor.pathOwn
