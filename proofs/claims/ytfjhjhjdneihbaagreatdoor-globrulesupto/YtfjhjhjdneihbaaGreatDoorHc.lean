/-
  The walk of Read.
-/
import Derived.Test.YtfjhjhjdneihbaaGreatDoorHb
namespace Go.Proofs.YtfjhjhjdneihbaaGreatDoor
open Go.RowKit

def ReadP (x : Sum (Nat × Nat) (List Ru)) (e : Ending) (w' : World) : Prop :=
  (∃ k n : Nat, x = .inl (k, n) ∧ (n = 2 ∨ n = 40) ∧ e = .returned (.tuple #[.pointer none, .int .i64 k, .iface 36 (.int .i64 n)])) ∨
  ∃ rs br, x = .inr rs ∧ e = .returned (.tuple #[.pointer (some ⟨br, 0, none⟩), .int .i64 0, .nilIface]) ∧ RulesAt w' br rs
theorem cells3 {w : World} {b : Nat} {x y z : Value} {t : TypeId} (h : w.heap[b]? = some (.cells #[x, y, z] t (0, 0))) : w.cell? ⟨b, 0, none⟩ = some x ∧ w.cell? ⟨b, 1, none⟩ = some y ∧ w.cell? ⟨b, 2, none⟩ = some z := ⟨cell_of_blk h 0, cell_of_blk h 1, cell_of_blk h 2⟩
theorem ru_one {bp n c : Nat} {x y : Bool} : ∀ u ∈ (#[Value.slice (some ⟨bp, 0, none⟩) n c, .bool x, .bool y]).toList, u.oneCell' = true := by
  intro u hu
  simp at hu
  rcases hu with rfl | rfl | rfl <;> rfl

set_option maxHeartbeats 4000000 in
set_option maxRecDepth 100000 in
theorem read_any (s : ByteArray) (w : World) (hs : s.size ≤ 4194304) (hm : MaxVar w) :
    Calls Tryz.prog 4 #[.string s] w fun e w' => ReadP (rdF s.data.toList.length s.data.toList 1 []) e w' ∧ Below w.heap.size w w' := by
  obtain ⟨i0, hi, hz0, hz1, hz2⟩ := info_parts Tryz.infoRule
  have HST := hid (RdTo.start s.data.toList)
  generalize rdF s.data.toList.length s.data.toList 1 [] = R at HST
  have hb0 : Below w.heap.size w (w.alloc (.cells #[.slice none 0 0] 39)) := (Below.refl _ _).alloc (Nat.le_refl _) _
  have HB0 : Hid ((w.alloc (.cells #[.slice none 0 0] 39)).heap[w.heap.size]? = some (.cells #[.slice none 0 0] 39 (0, 0))) := hid (heap_alloc_new _ _)
  have HO0 : Hid (OwnRu (w.alloc (.cells #[.slice none 0 0] 39)) w.heap.size w.heap.size (.slice none 0 0) []) := hid (OwnRu.nil _ _ _)
  go_enter Tryz.func4, Tryz.ntmps4
  go_wp2
  go_loopw [0, 6] (fun t n wr => ∃ (X : ByteArray) (k : Nat) (rs : List Ru) (v : Value), t = .string X ∧ n = .int .i64 k ∧ wr.heap[w.heap.size]? = some (.cells #[v] 39 (0, 0)) ∧ OwnRu wr w.heap.size w.heap.size v rs ∧ Below w.heap.size w wr ∧ rs.length + X.size ≤ s.size ∧ k + X.size ≤ s.size + 1 ∧ Hid (RdTo X.data.toList k rs R)) (fun t _ _ => lenOf t)
  case atStart => exact ⟨s, 1, [], _, rfl, rfl, HB0.out, HO0.out, hb0, by simp, by omega, HST⟩
  case round =>
    obtain ⟨X, k, rs, v, rfl, rfl, hB, hown, hb, hlen, hk, HQ⟩ := hrel
    clear HB0 HO0 hb0 HST
    have HB := hid hB
    have HO := hid hown
    have hlt := lt_of_heap hB
    clear hB hown
    by_cases hX : X.size = 0
    · have he := empty_yes X hX
      have HR : Hid (R = .inr rs) := hid (by have h := HQ.out; rw [nil_data X hX] at h; exact h.nil)
      have HG := hid (HO.out.at (cell_of_blk HB.out 0))
      clear hX
      go_wp2
      refine bodyPost_ret (v := .tuple #[.pointer (some ⟨w.heap.size, 0, none⟩), .int .i64 0, .nilIface]) (by simp [results, Tryz.results4, go_sem]) rfl ⟨.inr ⟨rs, _, HR.out, rfl, HG.out⟩, hb⟩
    · have he := empty_no X hX
      have h1 : 1 ≤ X.size := by omega
      have HNE := hid (data_ne h1)
      obtain ⟨m, hm2⟩ := hm.below hb
      have HLR := hid (cut_rest X.data.toList HNE.out)
      have HLF := hid (cut_first X.data.toList)
      obtain ⟨L, hL⟩ : ∃ L : ByteArray, L = ⟨(Lib.cut X.data.toList [10]).1.toArray⟩ := ⟨_, rfl⟩
      obtain ⟨Y, hY⟩ : ∃ L : ByteArray, L = ⟨(Lib.cut X.data.toList [10]).2.1.toArray⟩ := ⟨_, rfl⟩
      have hLd : L.data.toList = (Lib.cut X.data.toList [10]).1 := by rw [hL]
      have hYd : Y.data.toList = (Lib.cut X.data.toList [10]).2.1 := by rw [hY]
      obtain ⟨T, hT⟩ : ∃ T : ByteArray, T = ⟨(trm L.data.toList).toArray⟩ := ⟨_, rfl⟩
      have hTd : T.data.toList = trm (Lib.cut X.data.toList [10]).1 := by rw [hT, hLd]
      have hLs : L.size ≤ X.size := by have h := HLF.out; rw [← hLd, size_data, size_data] at h; exact h
      have hYs : Y.size < X.size := by have h := HLR.out; rw [← hYd, size_data, size_data] at h; exact h
      have hTs : T.size ≤ L.size := by have h := trm_len L.data.toList; rw [hLd, ← hTd, ← hLd, size_data, size_data] at h; exact h
      have HSK : Hid (trm (Lib.cut X.data.toList [10]).1 = [] ∨ Lib.hasPrefix T.data.toList [35] = true → RdTo Y.data.toList (k + 1) rs R) := hid (fun h => by rw [hYd]; rw [hTd] at h; exact HQ.out.skip HNE.out h)
      have HBD : Hid (T.data.toList ≠ [] → Lib.hasPrefix T.data.toList [35] = false → ruP T.data.toList = none → R = .inl (k, ruN T.data.toList)) := hid (fun h1 h2 h3 => by rw [hTd] at *; exact HQ.out.bad HNE.out h1 h2 h3)
      have HRL : Hid (∀ r, T.data.toList ≠ [] → Lib.hasPrefix T.data.toList [35] = false → ruP T.data.toList = some r → RdTo Y.data.toList (k + 1) (rs ++ [r]) R) := hid (fun r h1 h2 h3 => by rw [hYd]; rw [hTd] at *; exact HQ.out.rule HNE.out h1 h2 h3)
      have HTD := hid hTd
      have HL := hid hL
      have HY := hid hY
      have HT := hid hT
      clear hX hL hY hT hLd hYd hTd HQ HLR HLF
      go_wp2_with fail
      refine (Tryz.strings_Cut X ⟨#[10]⟩ m wr (by omega) hm2).mono ?_
      rintro e w1 ⟨rfl, q, hw1⟩
      rw [show (ByteArray.mk #[10]).data.toList = [10] from rfl, ← HL.out, ← HY.out]
      have hb1 : Below wr.heap.size wr w1 := by rw [hw1]; exact below_drewN (Below.refl _ _) q
      have HB1 := hid ((hb1.block _ hlt).trans HB.out)
      have HO1 := hid (HO.out.later hb1)
      have hlt1 := lt_of_heap HB1.out
      have hbw := hb.trans (hb1.mono hb.size)
      have hm1 := hm.below hbw
      clear hw1 hb1 HB HO hb hm2
      go_wp2_with fail
      refine (trimBlanks_any L w1 (by omega)).mono ?_
      rintro e wa ⟨rfl, ha⟩
      subst ha
      rw [← HT.out]
      by_cases hT0 : T.size = 0
      · have het := empty_yes T hT0
        have HN : Hid (RdTo Y.data.toList (k + 1) rs R) := hid (HSK.out (.inl (by rw [← HTD.out]; exact nil_data T hT0)))
        clear hT0
        go_wp2
        go_roundw
        case rel => exact ⟨Y, k + 1, rs, v, rfl, by go_num, HB1.out, HO1.out, hbw, by omega, by omega, HN⟩
        case measure => show Y.size < X.size; omega
      · have het := empty_no T hT0
        have HTN := hid (data_ne (X := T) (by omega))
        clear hT0
        cases hp : Lib.hasPrefix T.data.toList [35] with
        | true =>
          have HN : Hid (RdTo Y.data.toList (k + 1) rs R) := hid (HSK.out (.inr hp))
          have HP := hid hp
          clear hp
          go_wp2_with fail
          refine (Tryz.strings_HasPrefix T ⟨#[35]⟩ _).mono ?_
          rintro e wa ⟨rfl, ha⟩
          subst ha
          rw [show (ByteArray.mk #[35]).data.toList = [35] from rfl, HP.out]
          go_wp2
          go_roundw
          case rel => exact ⟨Y, k + 1, rs, v, rfl, by go_num, HB1.out, HO1.out, hbw, by omega, by omega, HN⟩
          case measure => show Y.size < X.size; omega
        | false =>
          have HP := hid hp
          clear hp
          go_wp2_with fail
          refine (Tryz.strings_HasPrefix T ⟨#[35]⟩ _).mono ?_
          rintro e wa ⟨rfl, ha⟩
          subst ha
          rw [show (ByteArray.mk #[35]).data.toList = [35] from rfl, HP.out]
          go_wp2_with fail
          refine (readRule_any T wa (by omega) hm1).mono ?_
          rintro e w2 ⟨hru, hb2⟩
          have HB2 := hid ((hb2.block _ hlt1).trans HB1.out)
          have HO2 := hid (HO1.out.later hb2)
          have hbw2 := hbw.trans (hb2.mono hbw.size)
          have hz2' := hb2.size
          rcases hru with ⟨hr, hn, a, n, c, x, y, rfl⟩ | ⟨r, b, c, hr, rfl, hbl, hpc⟩
          · have HR : Hid (R = .inl (k, ruN T.data.toList)) := hid (HBD.out HTN.out HP.out hr)
            have HN := hid hn
            generalize ruN T.data.toList = N at HR HN
            clear hr hn
            go_wp2
            refine bodyPost_ret (v := .tuple #[.pointer none, .int .i64 k, .iface 36 (.int .i64 N)]) (by simp [results, Tryz.results4, go_sem]) rfl ⟨.inl ⟨k, N, HR.out, HN.out, rfl⟩, hbw2.alloc hbw2.size _⟩
          · have HN := hid (HRL.out r HTN.out HP.out hr)
            have HPS := hid ((hpc.s hbl).imp (S' := Away v w.heap.size) (fun i _ h => away_fresh HO1.out (Nat.le_refl _) hlt1 i h))
            clear hr hpc
            obtain ⟨W, hW⟩ : ∃ W, W = w2.alloc (.cells #[.slice (some ⟨b, 0, none⟩) r.ps.length c, .bool r.dirs, .bool r.back] 46) := ⟨_, rfl⟩
            have hbW : Below w2.heap.size w2 W := by rw [hW]; exact (Below.refl _ _).alloc (Nat.le_refl _) _
            have HP3 : W.heap[w2.heap.size]? = some (.cells #[.slice (some ⟨b, 0, none⟩) r.ps.length c, .bool r.dirs, .bool r.back] 46 (0, 0)) := by rw [hW]; exact heap_alloc_new _ _
            have HB3 := hid ((hbW.block _ (lt_of_heap HB2.out)).trans HB2.out)
            have HO3 := hid (HO2.out.later hbW)
            have HPS3 := hid (HPS.out.later hbW)
            have hB3 : Below w.heap.size w W := hbw2.trans (hbW.mono hbw2.size)
            have hlt3 := lt_of_heap HB3.out
            have hz3 := hB3.size
            have HW := hid hW
            obtain ⟨c0, c1, c2⟩ := cells3 HP3
            have cg := cell_of_blk HB3.out 0
            have fg := free_of_blk HB3.out 0
            obtain ⟨cs, ho1, ho2, ho3⟩ := HO3.out
            obtain ⟨ad, cp, rfl, hcp⟩ := own_shape ho1
            have HO31 := hid ho1
            have HO32 := hid ho2
            have HO33 := hid ho3
            clear HB2 HO2 hbw2 hbW hW HP3 ho1 ho2 ho3 HO3 HPS
            go_wp2
            rw [← HW.out]
            go_region_law ((refine step_append_lies _ (by rfl) _ _ _ (by rfl) w.heap.size 46 i0 _ 3 32 Tryz.underlying37 hi hz0 hz1 hz2 rfl (by omega) (.slice ad rs.length cp) rs.length cs (by rfl) ((HO31.out.alloc _).drew) ⟨W.heap.size, 0, none⟩ 1 1 (#[.slice (some ⟨b, 0, none⟩) r.ps.length c, .bool r.dirs, .bool r.back]).toList (by rfl) (by rfl) (World.news_of_block (cs := #[.slice (some ⟨b, 0, none⟩) r.ps.length c, .bool r.dirs, .bool r.back]) (t := 46) (fr := (0, 0)) (heap_alloc_new W _)) ru_one (by omega) (by unfold maxLen; omega) (by omega) (by simp; omega) (W.heap.size + 1) (by simp) ?_; intro g cap w5 hown5 hgrow hat hlt5; have HF5 := hid (far_block hgrow hlt3 HO33.out HB3.out); have cg5 := cell_of_blk HF5.out 0; have fg5 := free_of_blk HF5.out 0))
            all_goals go_wp2
            all_goals
              have hb5 : Below w.heap.size w w5 := ((hB3.alloc hz3 _).drew).grown hgrow (by simp; omega) (own_ge HO31.out)
              have hbA : Below W.heap.size W ((W.alloc (.cells #[.slice (some ⟨b, 0, none⟩) r.ps.length c, .bool r.dirs, .bool r.back] 46)).drew) := ((Below.refl _ _).alloc (Nat.le_refl _) _).drew
              have hown6 := (own_rule (br := w.heap.size) ((HO31.out.alloc _).drew) (HO32.out.later hbA) HO33.out (HPS3.out.later hbA) (by simp; omega) hown5 hgrow (by simpa using hat)).set (k := 0) (u := .slice (some ⟨g, 0, none⟩) (rs.length + 1) cap)
              refine ⟨⟨Y, k + 1, rs ++ [r], _, rfl, by go_num, one_setCell HF5.out, hown6, hb5.setCell (by simp) _, ?_, ?_, hid HN.out⟩, ?_⟩
              · rw [List.length_append, List.length_singleton]; omega
              · omega
              · show Y.size < X.size; omega
end Go.Proofs.YtfjhjhjdneihbaaGreatDoor
