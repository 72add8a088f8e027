/-
  PROVED: the card of GlobJoins, for inputs of bulk up to 1048576: for every four such strings GlobJoins returns true, and they read afterwards as they read before; the card ties what errors.errorType holds to the program's text (a pruned copy of the project: the packages that this law loads).
-/
import Derived.Test.YtialioefecpbpaaDoorGw
import Derived.Test.YtialioefecpbpaaDoorFr
namespace Go.Proofs.YtialioefecpbpaaDoor.globJoins
open Go.ChangeShapes Go.WideShapes Go.ChangeAt Go.RowKit
open Go.ChangeMaps (open_string shut_string)

/-- the value that lies in the box -/
def box (p q x y : ByteArray) : Obj := .cells #[.string p, .string q, .string x, .string y] 44
theorem box_cells {w0 w : World} {p q x y : ByteArray} (hb : Below (w0.alloc (box p q x y)).heap.size (w0.alloc (box p q x y)) w) :
    w.cell? ⟨w0.heap.size, 0, none⟩ = some (.string p) ∧ w.cell? ⟨w0.heap.size, 1, none⟩ = some (.string q) ∧ w.cell? ⟨w0.heap.size, 2, none⟩ = some (.string x) ∧ w.cell? ⟨w0.heap.size, 3, none⟩ = some (.string y) := by
  have h := (hb.block w0.heap.size (by simp)).trans (heap_alloc_new w0 (box p q x y))
  exact ⟨cell_of_blk h 0, cell_of_blk h 1, cell_of_blk h 2, cell_of_blk h 3⟩
theorem cat_data (a b : ByteArray) : (a ++ b).data.toList = a.data.toList ++ b.data.toList := by simp
theorem comp_cat {p q : ByteArray} {P Q : List Pg.Pt} (hp : cmp p.data.toList = some P) (hq : cmp q.data.toList = some Q) (h : p.size + q.size ≤ 1022) : cmp (p ++ q).data.toList = some (P ++ Q) := by
  unfold cmp
  rw [cat_data, if_neg (by rw [List.length_append, size_data, size_data]; omega)]
  exact Pg.comp_joined (cmp_some hp).2.1 (cmp_some hq).2.1
theorem comp_wide' {p : ByteArray} {P : List Pg.Pt} (hp : cmp p.data.toList = some P) (h : p.size ≤ 1022) : cmp (ByteArray.mk #[42] ++ p ++ ByteArray.mk #[42]).data.toList = some ([Pg.star] ++ P ++ [Pg.star]) := by
  unfold cmp
  have e : (ByteArray.mk #[42] ++ p ++ ByteArray.mk #[42]).data.toList = [42] ++ p.data.toList ++ [42] := by rw [cat_data, cat_data]
  rw [e, if_neg (by rw [List.length_append, List.length_append, size_data]; simp; omega)]
  exact Pg.comp_wide (cmp_some hp).2.1
/-- a pattern that is one -/
theorem compile_yes {s : ByteArray} {P : List Pg.Pt} (h : cmp s.data.toList = some P) (w : World) :
    Calls Tryd.prog 9 #[.string s] w fun e w' => ∃ bg, e = .returned (.tuple #[.pointer (some ⟨bg, 0, none⟩), .nilIface]) ∧ GlobAt w' bg P ∧ Below w.heap.size w w' := by
  refine (compile_all s w).mono ?_
  rintro e w' ⟨hc, hb⟩
  rcases hc with ⟨h1, _⟩ | ⟨P', bg, h1, _, h2, h3⟩
  · rw [h] at h1; cases h1
  · rw [h] at h1; cases h1
    exact ⟨bg, h2, h3, hb⟩
theorem compile_no {s : ByteArray} (h : cmp s.data.toList = none) (w : World) :
    Calls Tryd.prog 9 #[.string s] w fun e w' => ∃ n : Nat, e = .returned (.tuple #[.pointer none, .iface 46 (.int .i64 n)]) ∧ Below w.heap.size w w' := by
  refine (compile_all s w).mono ?_
  rintro e w' ⟨hc, hb⟩
  rcases hc with ⟨_, _, h2⟩ | ⟨P', bg, h1, _⟩
  · exact ⟨_, h2, hb⟩
  · rw [h] at h1; cases h1

set_option maxHeartbeats 8000000 in
set_option maxRecDepth 100000 in
theorem walk (p q x y : ByteArray) (w : World) (hp : p.size ≤ 1048576) (hq : q.size ≤ 1048576) (hx : x.size ≤ 1048576) (hy : y.size ≤ 1048576) (hg : ErrVar w) :
    Calls Tryd.prog 7 #[.agg #[.string p, .string q, .string x, .string y]] w fun e w' => e = .returned (.bool true) ∧ Below w.heap.size w w' := by
  have hb0 : Below w.heap.size w (w.alloc (box p q x y)) := (Below.refl _ _).alloc (Nat.le_refl _) _
  have HG0 := hid (hg.below hb0)
  clear hg
  cases hP : cmp p.data.toList with
  | none =>
    have HP := hid hP
    clear hP
    cases hQ : cmp q.data.toList with
    | none =>
      have HQ := hid hQ
      clear hQ
      go_enter Tryd.func7, Tryd.ntmps7
      go_wp2_with fail
      refine (compile_no HP.out _).mono ?_
      rintro e w1 ⟨n1, rfl, hb1⟩
      have hc1 := (box_cells hb1).2.1
      go_wp2_with fail
      refine (compile_no HQ.out _).mono ?_
      rintro e w2 ⟨n2, rfl, hb2⟩
      have hB2 := hb0.trans ((hb1.trans (hb2.mono hb1.size)).mono hb0.size)
      have HG2 := hid ((HG0.out.below hb1).below hb2)
      clear hb1 hb2 hc1
      go_wp2_with fail
      refine (works_any _ HG2.out).mono ?_
      rintro e w3 ⟨rfl, hb3⟩
      go_wp2
      go_ret
      exact ⟨rfl, hB2.trans (hb3.mono hB2.size)⟩
    | some Q =>
      have HQ := hid hQ
      clear hQ
      go_enter Tryd.func7, Tryd.ntmps7
      go_wp2_with fail
      refine (compile_no HP.out _).mono ?_
      rintro e w1 ⟨n1, rfl, hb1⟩
      have hc1 := (box_cells hb1).2.1
      go_wp2_with fail
      refine (compile_yes HQ.out _).mono ?_
      rintro e w2 ⟨bq, rfl, _, hb2⟩
      have hB2 := hb0.trans ((hb1.trans (hb2.mono hb1.size)).mono hb0.size)
      have HG2 := hid ((HG0.out.below hb1).below hb2)
      clear hb1 hb2 hc1
      go_wp2_with fail
      refine (works_any _ HG2.out).mono ?_
      rintro e w3 ⟨rfl, hb3⟩
      go_wp2
      go_ret
      exact ⟨rfl, hB2.trans (hb3.mono hB2.size)⟩
  | some P =>
    have HP := hid hP
    have hPl := (cmp_some hP).2.2
    clear hP
    cases hQ : cmp q.data.toList with
    | none =>
      have HQ := hid hQ
      clear hQ
      go_enter Tryd.func7, Tryd.ntmps7
      go_wp2_with fail
      refine (compile_yes HP.out _).mono ?_
      rintro e w1 ⟨bp, rfl, _, hb1⟩
      have hc1 := (box_cells hb1).2.1
      go_wp2_with fail
      refine (compile_no HQ.out _).mono ?_
      rintro e w2 ⟨n2, rfl, hb2⟩
      have hB2 := hb0.trans ((hb1.trans (hb2.mono hb1.size)).mono hb0.size)
      have HG2 := hid ((HG0.out.below hb1).below hb2)
      clear hb1 hb2 hc1
      go_wp2_with fail
      refine (works_any _ HG2.out).mono ?_
      rintro e w3 ⟨rfl, hb3⟩
      go_wp2
      go_ret
      exact ⟨rfl, hB2.trans (hb3.mono hB2.size)⟩
    | some Q =>
      have HQ := hid hQ
      have hQl := (cmp_some hQ).2.2
      clear hQ
      go_enter Tryd.func7, Tryd.ntmps7
      go_wp2_with fail
      refine (compile_yes HP.out _).mono ?_
      rintro e w1 ⟨bp, rfl, hgp, hb1⟩
      have hc1 := (box_cells hb1).2.1
      have HAp := hid hgp
      clear hgp
      go_wp2_with fail
      refine (compile_yes HQ.out _).mono ?_
      rintro e w2 ⟨bq, rfl, hgq, hb2⟩
      have hb2' := hb1.trans (hb2.mono hb1.size)
      have HG2 := hid ((HG0.out.below hb1).below hb2)
      have HAp := hid (HAp.out.later hb2)
      have HAq := hid hgq
      clear hgq hb1 hb2 hc1
      obtain ⟨c0, c1, c2, c3⟩ := box_cells hb2'
      by_cases hl : p.size + q.size ≤ 1022
      · have hl1 : ¬ (1022 : Int) < (p.size : Int) + (q.size : Int) := by omega
        have HPQ := hid (comp_cat HP.out HQ.out hl)
        have HW := hid (comp_wide' HP.out (by omega))
        go_wp2_with fail
        refine (compile_yes HPQ.out _).mono ?_
        rintro e w3 ⟨bj, rfl, hgj, hb3⟩
        have hb3' := hb2'.trans (hb3.mono hb2'.size)
        have HG3 := hid (HG2.out.below hb3)
        have HAp3 := hid (HAp.out.later hb3)
        have HAq3 := hid (HAq.out.later hb3)
        have HAj := hid hgj
        clear hgj hb2' hb3 c0 c1 c2 c3 HAp HAq HG2
        obtain ⟨c0, c1, c2, c3⟩ := box_cells hb3'
        go_wp2_with fail
        refine (compile_yes HW.out _).mono ?_
        rintro e w4 ⟨bw, rfl, hgw, hb4⟩
        have hb4' := hb3'.trans (hb4.mono hb3'.size)
        have HG4 := hid (HG3.out.below hb4)
        have HAp4 := hid (HAp3.out.later hb4)
        have HAq4 := hid (HAq3.out.later hb4)
        have HAj4 := hid (HAj.out.later hb4)
        have HAw4 := hid hgw
        clear hgw hb3' hb4 c0 c1 c2 c3 HAp3 HAq3 HAj HG3
        obtain ⟨c0, c1, c2, c3⟩ := box_cells hb4'
        have hPQl : (P ++ Q).length ≤ 140737488355328 := by rw [List.length_append]; omega
        have hWl : ([Pg.star] ++ P ++ [Pg.star]).length ≤ 140737488355328 := by simp; omega
        cases mP : Pg.mt P x.data.toList with
        | false =>
          have MP := hid mP
          clear mP
          go_wp2_with fail
          refine (match_any (x) HAp4.out (by omega) (by omega)).mono ?_
          rintro e w5 ⟨rfl, hb5⟩
          rw [MP.out]
          have hb5' := hb4'.trans (hb5.mono hb4'.size)
          have HG5 := hid (HG4.out.below hb5)
          have HAp5 := hid (HAp4.out.later hb5)
          clear hb4' hb5 c0 c1 c2 c3
          obtain ⟨c0, c1, c2, c3⟩ := box_cells hb5'
          go_wp2_with fail
          refine (match_any (x) HAp5.out (by omega) (by omega)).mono ?_
          rintro e w6 ⟨rfl, hb6⟩
          rw [MP.out]
          have hb6' := hb5'.trans (hb6.mono hb5'.size)
          have HG6 := hid (HG5.out.below hb6)
          clear hb5' hb6 c0 c1 c2 c3
          obtain ⟨c0, c1, c2, c3⟩ := box_cells hb6'
          go_wp2_with fail
          refine (works_any _ HG6.out).mono ?_
          rintro e wz ⟨rfl, hbz⟩
          go_wp2
          go_ret
          have hBz := hb6'.trans (hbz.mono hb6'.size)
          exact ⟨rfl, hb0.trans (hBz.mono hb0.size)⟩
        | true =>
          have MP := hid mP
          clear mP
          have MW : Hid (Pg.mt ([Pg.star] ++ P ++ [Pg.star]) (y ++ x ++ y).data.toList = true) := hid (by rw [cat_data, cat_data]; exact Pg.wide_means _ _ MP.out)
          have hyl : (y ++ x ++ y).size ≤ 140737488355328 := by simp; omega
          cases mQ : Pg.mt Q y.data.toList with
          | false =>
            have MQ := hid mQ
            clear mQ
            go_wp2_with fail
            refine (match_any (x) HAp4.out (by omega) (by omega)).mono ?_
            rintro e w5 ⟨rfl, hb5⟩
            rw [MP.out]
            have hb5' := hb4'.trans (hb5.mono hb4'.size)
            have HG5 := hid (HG4.out.below hb5)
            have HAp5 := hid (HAp4.out.later hb5)
            have HAq5 := hid (HAq4.out.later hb5)
            have HAw5 := hid (HAw4.out.later hb5)
            clear hb4' hb5 c0 c1 c2 c3
            obtain ⟨c0, c1, c2, c3⟩ := box_cells hb5'
            go_wp2_with fail
            refine (match_any (y) HAq5.out (by omega) (by omega)).mono ?_
            rintro e w6 ⟨rfl, hb6⟩
            rw [MQ.out]
            have hb6' := hb5'.trans (hb6.mono hb5'.size)
            have HG6 := hid (HG5.out.below hb6)
            have HAp6 := hid (HAp5.out.later hb6)
            have HAw6 := hid (HAw5.out.later hb6)
            clear hb5' hb6 c0 c1 c2 c3
            obtain ⟨c0, c1, c2, c3⟩ := box_cells hb6'
            go_wp2_with fail
            refine (match_any (x) HAp6.out (by omega) (by omega)).mono ?_
            rintro e w7 ⟨rfl, hb7⟩
            rw [MP.out]
            have hb7' := hb6'.trans (hb7.mono hb6'.size)
            have HG7 := hid (HG6.out.below hb7)
            have HAw7 := hid (HAw6.out.later hb7)
            clear hb6' hb7 c0 c1 c2 c3
            obtain ⟨c0, c1, c2, c3⟩ := box_cells hb7'
            go_wp2_with fail
            refine (match_any (y ++ x ++ y) HAw7.out hyl hWl).mono ?_
            rintro e w8 ⟨rfl, hb8⟩
            rw [MW.out]
            have hb8' := hb7'.trans (hb8.mono hb7'.size)
            have HG8 := hid (HG7.out.below hb8)
            clear hb7' hb8 c0 c1 c2 c3
            obtain ⟨c0, c1, c2, c3⟩ := box_cells hb8'
            go_wp2_with fail
            refine (works_any _ HG8.out).mono ?_
            rintro e wz ⟨rfl, hbz⟩
            go_wp2
            go_ret
            have hBz := hb8'.trans (hbz.mono hb8'.size)
            exact ⟨rfl, hb0.trans (hBz.mono hb0.size)⟩
          | true =>
            have MQ := hid mQ
            clear mQ
            have MJ : Hid (Pg.mt (P ++ Q) (x ++ y).data.toList = true) := hid (by rw [cat_data]; exact Pg.joined_means MP.out MQ.out)
            have hxl : (x ++ y).size ≤ 140737488355328 := by simp; omega
            go_wp2_with fail
            refine (match_any (x) HAp4.out (by omega) (by omega)).mono ?_
            rintro e w5 ⟨rfl, hb5⟩
            rw [MP.out]
            have hb5' := hb4'.trans (hb5.mono hb4'.size)
            have HG5 := hid (HG4.out.below hb5)
            have HAp5 := hid (HAp4.out.later hb5)
            have HAq5 := hid (HAq4.out.later hb5)
            have HAw5 := hid (HAw4.out.later hb5)
            have HAj5 := hid (HAj4.out.later hb5)
            clear hb4' hb5 c0 c1 c2 c3
            obtain ⟨c0, c1, c2, c3⟩ := box_cells hb5'
            go_wp2_with fail
            refine (match_any (y) HAq5.out (by omega) (by omega)).mono ?_
            rintro e w6 ⟨rfl, hb6⟩
            rw [MQ.out]
            have hb6' := hb5'.trans (hb6.mono hb5'.size)
            have HG6 := hid (HG5.out.below hb6)
            have HAp6 := hid (HAp5.out.later hb6)
            have HAw6 := hid (HAw5.out.later hb6)
            have HAj6 := hid (HAj5.out.later hb6)
            clear hb5' hb6 c0 c1 c2 c3
            obtain ⟨c0, c1, c2, c3⟩ := box_cells hb6'
            go_wp2_with fail
            refine (match_any (x ++ y) HAj6.out (hxl) hPQl).mono ?_
            rintro e w7 ⟨rfl, hb7⟩
            rw [MJ.out]
            have hb7' := hb6'.trans (hb7.mono hb6'.size)
            have HG7 := hid (HG6.out.below hb7)
            have HAp7 := hid (HAp6.out.later hb7)
            have HAw7 := hid (HAw6.out.later hb7)
            clear hb6' hb7 c0 c1 c2 c3
            obtain ⟨c0, c1, c2, c3⟩ := box_cells hb7'
            go_wp2_with fail
            refine (match_any (x) HAp7.out (by omega) (by omega)).mono ?_
            rintro e w8 ⟨rfl, hb8⟩
            rw [MP.out]
            have hb8' := hb7'.trans (hb8.mono hb7'.size)
            have HG8 := hid (HG7.out.below hb8)
            have HAw8 := hid (HAw7.out.later hb8)
            clear hb7' hb8 c0 c1 c2 c3
            obtain ⟨c0, c1, c2, c3⟩ := box_cells hb8'
            go_wp2_with fail
            refine (match_any (y ++ x ++ y) HAw8.out (hyl) hWl).mono ?_
            rintro e w9 ⟨rfl, hb9⟩
            rw [MW.out]
            have hb9' := hb8'.trans (hb9.mono hb8'.size)
            have HG9 := hid (HG8.out.below hb9)
            clear hb8' hb9 c0 c1 c2 c3
            obtain ⟨c0, c1, c2, c3⟩ := box_cells hb9'
            go_wp2_with fail
            refine (works_any _ HG9.out).mono ?_
            rintro e wz ⟨rfl, hbz⟩
            go_wp2
            go_ret
            have hBz := hb9'.trans (hbz.mono hb9'.size)
            exact ⟨rfl, hb0.trans (hBz.mono hb0.size)⟩
      · have hl1 : (1022 : Int) < (p.size : Int) + (q.size : Int) := by omega
        have hB2 := hb0.trans (hb2'.mono hb0.size)
        clear hb2'
        go_wp2_with fail
        refine (works_any _ HG2.out).mono ?_
        rintro e w3 ⟨rfl, hb3⟩
        go_wp2
        go_ret
        exact ⟨rfl, hB2.trans (hb3.mono hB2.size)⟩

theorem own : ownKnob Tryd.prog.godebug = none := by kernel_rfl

set_option maxRecDepth 100000 in
theorem contract (H : Type) (enc : TypeId × Value → H) (W : World) (base : Nat) (args : Array Value) (ds gs : List (DataW H)) (before : List MemPlace)
    (hval : ∀ (j : Nat) t v, Tryd.f7.params[j]? = some t → args[j]? = some v → Value.okWide Tryd.prog W .any base t v)
    (hW : DataW.Whole enc Tryd.prog Tryd.f7.params.toList Rows.globJoinsSpec.vars false W args.toList ds gs before)
    (hk : Rows.uptoSmall H (ds ++ gs) = true)
    (hL : laidMetH Tryd.prog Rows.globJoinsUptoRow.laid W)
    : Calls Tryd.prog 7 args W fun e W' => ∃ v, e = .returned v ∧ Rows.globJoinsSpec.post enc Tryd.prog Tryd.f7 false true false false W args v W' := by
  have hW' := hW
  obtain ⟨p, q, hA0, hV, rfl, hfz, hnd⟩ := hW
  have hA : DataW.TrodAll enc Tryd.prog W 0 (fun _ => true) true Tryd.f7.params.toList args.toList ds p := hA0
  rw [Tryd.params7] at hA hval
  obtain ⟨v0, vs0, d0, ds0, p0, q0, hargs0, rfl, rfl, h0, r0⟩ := trodAll_cons hA
  obtain ⟨rfl, rfl, rfl⟩ := trodAll_nil r0
  obtain rfl : args = #[v0] := by cases args; simp_all
  obtain ⟨rfl, rfl⟩ := trodVars_none hV
  obtain ⟨x0a, x0b, x0c, x0d, rfl, rfl, rfl, ma0, mb0, mc0, md0⟩ := open_four Tryd.underlying44 Tryd.underlying9 ⟨rfl, rfl⟩ ⟨rfl, rfl⟩ ⟨rfl, rfl⟩ ⟨rfl, rfl⟩ (by kernel_rfl) (by kernel_rfl) h0
  clear hA0
  simp only [List.append_nil] at hW' hk
  have hk' : Rows.uptoBulkAll (H := H) [DataW.agg [.lit (.string x0a.data.toList), .lit (.string x0b.data.toList), .lit (.string x0c.data.toList), .lit (.string x0d.data.toList)]] ≤ 1048576 := of_decide_eq_true hk
  simp only [Rows.uptoBulkAll, Rows.uptoBulk] at hk'
  have hls0a : x0a.data.toList.length = x0a.size := size_data _
  have hls0b : x0b.data.toList.length = x0b.size := size_data _
  have hls0c : x0c.data.toList.length = x0c.size := size_data _
  have hls0d : x0d.data.toList.length = x0d.size := size_data _
  refine (walk x0a x0b x0c x0d W (by omega) (by omega) (by omega) (by omega) (handle_of hL)).mono fun e W' ⟨he, hb⟩ => ?_
  subst he
  exact ⟨_, rfl, _, _, _, [], [], [], hW', trodAll_cons_mk (shut_bool Tryd.underlying4 _) trodAll_mk0, trodAll_cons_mk (shut_four Tryd.underlying44 Tryd.underlying9 ⟨rfl, rfl⟩ ⟨rfl, rfl⟩ ⟨rfl, rfl⟩ ⟨rfl, rfl⟩ (by kernel_rfl) (by kernel_rfl) ma0 mb0 mc0 md0) trodAll_mk0, rfl, hb.frame _, fun h => by cases h⟩

set_option maxRecDepth 100000 in
theorem lifted (os : Os) (started : os.Started) (H : Type) (enc : TypeId × Value → H) (F : Stop.Interp) :
    ReturnsInHanded {} Tryd.checked os 7 .any ((Rows.OpenSpec.upto Rows.globJoinsSpec).preRow enc Tryd.prog Tryd.f7 Rows.globJoinsUptoRow.domain false Rows.globJoinsUptoRow.laid) (((Rows.OpenSpec.upto Rows.globJoinsSpec).at F).post enc Tryd.prog Tryd.f7 false true false false) := by
  refine returnsInHanded_of_row (C := Tryd.checked) (s := Rows.OpenSpec.upto Rows.globJoinsSpec) own started (by kernel_rfl) Tryd.func7
    (witness_row_at (enc := enc) (C := Tryd.checked) false
      { World.holding Tryd.prog os ⟨#[], #[], []⟩ with heap := (World.holding Tryd.prog os ⟨#[], #[], []⟩).heap.modify 0 fun
          | .cells _ t frozen => .cells #[.iface 107 (.agg #[.pointer (some ⟨2, 24, none⟩)])] t frozen
          | o => o }
      #[.agg #[.string .empty, .string .empty, .string .empty, .string .empty]] rfl (by kernel_rfl) (by kernel_rfl) (by kernel_rfl)
      (OpenSpec.preRow_of_cond 8 (x := ([.agg [.lit (.string []), .lit (.string []), .lit (.string []), .lit (.string [])]], [], [])) (by kernel_rfl) (by kernel_rfl) (fun k hk => by cases hk; kernel_rfl) (by kernel_rfl) (laidMetH_of_parts (laidMet_nil _ _) (by kernel_rfl)))) ?_
  intro W base args ds gs before hval hW _ hcond hsz hL _ _
  exact contract H enc W base args ds gs before hval hW (hcond _ rfl) hL

theorem said : Rows.GlobJoinsUptoSaid :=
  OpenClaim.holds_of_cond 7 Tryd.f7 rfl rfl rfl rfl rfl rfl rfl ⟨rfl, rfl, rfl, rfl, rfl⟩ rfl rfl rfl rfl rfl (by kernel_rfl) Tryd.func7 (by kernel_rfl)
    (of_decide_eq_true (by kernel_rfl)) (by unfold Func.isWrapper; first | (rw [if_pos (by decide +kernel)]; kernel_rfl) | (rw [if_neg (by decide +kernel)]; exact ⟨rfl, rfl⟩))
    (fun os started H enc _ F => by rw [OpenClaim.pre_eq_preRow]; exact lifted os started H enc F)

theorem plain (f : FuncId) (fn : Func) (hf : Tryd.pinned.checked.prog.funcNamed Rows.globJoinsUptoRow.func = some f) (hfn : Tryd.pinned.checked.prog.funcs[f]? = some fn) :
    true = Tryd.pinned.checked.prog.looks [] ∧ ∀ (j : Nat) t, fn.params[j]? = some t → Tryd.pinned.checked.prog.wantsStandIn t = false := by
  obtain rfl : f = 7 := Option.some.inj ((show Tryd.prog.funcNamed Rows.globJoinsUptoRow.func = some 7 by kernel_rfl).symm.trans hf) |>.symm
  obtain rfl : fn = Tryd.f7 := (Option.some.inj (Tryd.func7.symm.trans hfn)).symm
  refine ⟨by kernel_rfl, fun j t ht => ?_⟩
  rw [Tryd.params7] at ht
  have hm : t = 44 := by simpa using Array.mem_of_getElem? ht
  rcases hm with rfl
  · exact (show Tryd.prog.wantsStandIn 44 = false by kernel_rfl)

theorem card : Rows.GlobJoinsUptoCardSaid :=
  Claim7.holds_tied_plain_at .later [] _ _ _ _ said (fun _ h => by cases h) (by kernel_rfl) (fun _ h => by cases h) globJoinsUpto_row_tie rfl ⟨rfl, rfl⟩ (by kernel_rfl) rfl plain (by kernel_rfl)
end Go.Proofs.YtialioefecpbpaaDoor.globJoins
