/-
  The walk of the document's means.
-/
import Derived.Test.YtfjhjhjdneihbaaGreatDoorI8
namespace Go.Proofs.YtfjhjhjdneihbaaGreatDoor
open Go.RowKit

theorem DpRd.shape {w : World} {B : Nat} {v : Value} {ps : List Pg.Pi} (h : DpRd w B v ps) : ∃ a c, v = .slice a ps.length c := by
  rcases h with ⟨h1, a, c, h2⟩ | ⟨b, o, c, h, _⟩
  · subst h1; exact ⟨a, c, h2⟩
  · exact ⟨_, _, h⟩
theorem BL_last {ns : List (List UInt8)} {n : List UInt8} {m : Nat} (h : ns.getLast? = some n) (hm : ns.length = m + 1) : (BL ns)[m]? = some ⟨n.toArray⟩ := by
  rw [List.getLast?_eq_getElem?, hm, Nat.add_sub_cancel] at h
  exact BL_get h

set_option maxHeartbeats 4000000 in
set_option maxRecDepth 100000 in
theorem means_any (d : DR) (hF : Fine d) (dir : Bool) (B : Nat) (w : World) (x3 u : Value) (ns : List (List UInt8)) (hv : DpRd w B x3 d.ps) (hu : Rd w u (BL ns)) (hsz : ∀ n ∈ ns, n.length ≤ 10000000) (hnl : ns.length ≤ 10000000) (hn0 : ns ≠ []) (hpl : d.ps.length ≤ 100000000) :
    Calls Tryz.prog 24 #[.agg #[.bool d.back, .bool d.dir, .bool d.rooted, x3], u, .bool dir] w fun e w' => e = .returned (.bool (dmn d ns dir)) ∧ Below w.heap.size w w' := by
  rcases d with ⟨ps, rooted, dr, back⟩
  dsimp only at hv hpl ⊢
  obtain ⟨R, hR⟩ : ∃ R, R = dmn ⟨ps, rooted, dr, back⟩ ns dir := ⟨_, rfl⟩
  rw [← hR]
  unfold dmn at hR
  dsimp only at hR
  have hF' : rooted = true ∨ ∃ P, ps = [some P] := hF
  clear hF
  obtain ⟨O, hO⟩ : ∃ O, O = Obj.cells #[.bool back, .bool dr, .bool rooted, x3] 52 (0, 0) := ⟨_, rfl⟩
  have hbA : Below w.heap.size w (w.alloc O) := (Below.refl _ _).alloc (Nat.le_refl _) _
  have HBA := hid hbA
  have HVA := hid (hv.later hbA)
  have HUA := hid (hu.below hbA)
  have HHB : Hid ((w.alloc O).heap[w.heap.size]? = some O) := hid (heap_alloc_new w O)
  have hsA : (w.alloc O).heap.size = w.heap.size + 1 := by simp
  have HSA := hid hsA
  rw [hO] at HHB
  have m1 := cell_of_blk HHB.out 1
  have m2 := cell_of_blk HHB.out 2
  have m3 := cell_of_blk HHB.out 3
  have HSZ := hid hsz
  have HUS := hid hu
  clear hbA hsA hsz
  rw [← hO] at m1 m2 m3
  rw [hO] at HBA HVA HUA HSA m1 m2 m3
  clear hO HHB
  by_cases hdd : (dr && !dir) = true
  · obtain ⟨rfl, rfl⟩ : dr = true ∧ dir = false := by simpa using hdd
    have HR : Hid (R = false) := hid (by rw [hR]; rfl)
    obtain ⟨a2, c2, rfl⟩ := hu.shape
    obtain ⟨a3, c3, rfl⟩ := hv.shape
    clear hR hu hv hdd HUS
    go_enter Tryz.func24, Tryz.ntmps24
    go_wp2
    go_ret
    exact ⟨by rw [HR.out]; rfl, HBA.out⟩
  · have hdd' : (dr && !dir) = false := by simpa using hdd
    rw [hdd', if_neg Bool.false_ne_true] at hR
    have hcs : (dr = true ∧ dir = true) ∨ (dr = false ∧ dir = true) ∨ (dr = false ∧ dir = false) := by
      revert hdd'; cases dr <;> cases dir <;> decide
    clear hdd hdd'
    cases rooted with
    | true =>
      rw [if_pos rfl] at hR
      obtain ⟨a2, c2, rfl⟩ := hu.shape
      obtain ⟨a3, c3, rfl⟩ := hv.shape
      obtain ⟨T, hT⟩ : ∃ T, T = ps.length := ⟨_, rfl⟩
      have HFT := hid (fun b => fits_any b B ps hpl _ _ _ _ HVA.out HUA.out HSZ.out hnl)
      rw [← hT] at hR HFT m3 HBA ⊢
      have HR := hid hR
      clear hR hu hv HVA HUA HUS hF' hT
      by_cases h1 : 1 < T
      · have h1i : (1 : Int) < (T : Int) := by omega
        have HR2 : Hid (R = Pg.D true ps ns) := hid (by rw [HR.out, decide_eq_true h1])
        have HF1 := hid (HFT.out true)
        clear HR HFT
        generalize Pg.D true ps ns = dd at HR2 HF1
        rcases hcs with ⟨rfl, rfl⟩ | ⟨rfl, rfl⟩ | ⟨rfl, rfl⟩
        · go_enter Tryz.func24, Tryz.ntmps24
          go_wp2_with fail
          refine HF1.out.mono ?_
          rintro e w2 ⟨rfl, hb2⟩
          have HB2 := hid (HBA.out.trans (hb2.mono HBA.out.size))
          clear hb2
          go_wp2
          go_ret
          exact ⟨by rw [HR2.out]; rfl, HB2.out⟩
        · go_enter Tryz.func24, Tryz.ntmps24
          go_wp2_with fail
          refine HF1.out.mono ?_
          rintro e w2 ⟨rfl, hb2⟩
          have HB2 := hid (HBA.out.trans (hb2.mono HBA.out.size))
          clear hb2
          go_wp2
          go_ret
          exact ⟨by rw [HR2.out]; rfl, HB2.out⟩
        · go_enter Tryz.func24, Tryz.ntmps24
          go_wp2_with fail
          refine HF1.out.mono ?_
          rintro e w2 ⟨rfl, hb2⟩
          have HB2 := hid (HBA.out.trans (hb2.mono HBA.out.size))
          clear hb2
          go_wp2
          go_ret
          exact ⟨by rw [HR2.out]; rfl, HB2.out⟩
      · have h1i : ¬ (1 : Int) < (T : Int) := by omega
        have HR2 : Hid (R = Pg.D false ps ns) := hid (by rw [HR.out, decide_eq_false h1])
        have HF1 := hid (HFT.out false)
        clear HR HFT
        generalize Pg.D false ps ns = dd at HR2 HF1
        rcases hcs with ⟨rfl, rfl⟩ | ⟨rfl, rfl⟩ | ⟨rfl, rfl⟩
        · go_enter Tryz.func24, Tryz.ntmps24
          go_wp2_with fail
          refine HF1.out.mono ?_
          rintro e w2 ⟨rfl, hb2⟩
          have HB2 := hid (HBA.out.trans (hb2.mono HBA.out.size))
          clear hb2
          go_wp2
          go_ret
          exact ⟨by rw [HR2.out]; rfl, HB2.out⟩
        · go_enter Tryz.func24, Tryz.ntmps24
          go_wp2_with fail
          refine HF1.out.mono ?_
          rintro e w2 ⟨rfl, hb2⟩
          have HB2 := hid (HBA.out.trans (hb2.mono HBA.out.size))
          clear hb2
          go_wp2
          go_ret
          exact ⟨by rw [HR2.out]; rfl, HB2.out⟩
        · go_enter Tryz.func24, Tryz.ntmps24
          go_wp2_with fail
          refine HF1.out.mono ?_
          rintro e w2 ⟨rfl, hb2⟩
          have HB2 := hid (HBA.out.trans (hb2.mono HBA.out.size))
          clear hb2
          go_wp2
          go_ret
          exact ⟨by rw [HR2.out]; rfl, HB2.out⟩
    | false =>
      rw [if_neg Bool.false_ne_true] at hR
      obtain ⟨P, rfl⟩ : ∃ P, ps = [some P] := by
        rcases hF' with h | h
        · exact absurd h Bool.false_ne_true
        · exact h
      clear hF'
      rcases hv with ⟨h, _⟩ | ⟨b, o, c, rfl, hc, hlt, hX⟩
      · cases h
      obtain ⟨e1, x, e2, ⟨ax, nx, cx, rfl⟩, e3⟩ := hX 0 (some P) rfl
      obtain ⟨hO, hPl⟩ := e3 P rfl
      rw [Nat.zero_mul, Nat.add_zero] at e2
      obtain ⟨n, hn⟩ : ∃ n, ns.getLast? = some n := by
        cases h : ns.getLast? with
        | none => exact absurd (List.getLast?_eq_none_iff.1 h) hn0
        | some n => exact ⟨n, rfl⟩
      have HR : Hid (R = Pg.mt P n) := hid (by rw [hR, hn])
      obtain ⟨m, hm⟩ : ∃ m, ns.length = m + 1 := ⟨ns.length - 1, by have := List.length_pos_iff.2 hn0; omega⟩
      have hg := BL_last hn hm
      have hnn := HSZ.out n (List.mem_of_getLast? hn)
      rcases hu with ⟨h, _⟩ | ⟨b2, o2, c2, rfl, hc2, hlt2, hX2⟩
      · rw [h] at hg; cases hg
      have d2 := hX2 m _ hg
      obtain ⟨nb, hnb⟩ : ∃ nb : ByteArray, nb = ⟨n.toArray⟩ := ⟨_, rfl⟩
      rw [← hnb] at d2
      have HNB : Hid (nb.data.toList = n) := hid (by rw [hnb])
      have hnbs : nb.size ≤ 10000000 := by rw [← size_data, HNB.out]; exact hnn
      rw [BL_length] at hc2 ⊢
      obtain ⟨M, hM⟩ : ∃ M, M = ns.length := ⟨_, rfl⟩
      rw [← hM] at hc2 ⊢
      have hMw : IntKind.i64.wrap ((M : Int) - 1) = (m : Int) := by rw [IntKind.wrap_i64]; omega
      have k1 : (0 : Int) ≤ (m : Int) := by omega
      have k2 : (m : Int) < (M : Int) := by omega
      have HE2 := hid ((HBA.out.cell (p := ⟨b, o + 1, none⟩) hlt).trans e2)
      have HD2 := hid ((HBA.out.cell (p := ⟨b2, o2 + m, none⟩) hlt2).trans d2)
      have HL1 : Hid (b < w.heap.size + 1) := hid (by omega)
      have HL2 : Hid (b2 < w.heap.size + 1) := hid (by omega)
      have HMT := hid (fun (W : World) (hW : Below (w.heap.size + 1) _ W) => refMatch_any nb ((hO.stays HBA.out).stays (by rw [HSA.out]; exact hW)) (by omega) hPl)
      rw [HNB.out] at HMT
      have HM3 := hid m3
      obtain ⟨W1, hW1⟩ : ∃ W1, W1 = w.alloc (Obj.cells #[.bool back, .bool dr, .bool false, .slice (some ⟨b, o, none⟩) 1 c] 52 (0, 0)) := ⟨_, rfl⟩
      generalize Pg.mt P n = dd at HR HMT
      clear hX hX2 e1 e2 e3 d2 hlt hlt2 hn hg hnb hM hm hR HVA HUA HUS hnn hW1 W1
      rcases hcs with ⟨rfl, rfl⟩ | ⟨rfl, rfl⟩ | ⟨rfl, rfl⟩
      · go_enter Tryz.func24, Tryz.ntmps24
        go_wp2
        refine wp_region_class (C := fun w' => Below (w.heap.size + 1) (w.alloc (Obj.cells #[.bool back, .bool true, .bool false, .slice (some ⟨b, o, none⟩) 1 c] 52 (0, 0))) w') (by kernel_rfl) (by kernel_rfl) (below_drewN (Below.refl _ _) 1) ?_
        refine wpQuiet_step (fun K hK => ?_)
        go_simp
        refine ⟨_, fun _ _ => rfl, hK _ ?_⟩
        clear hK K
        refine wpQuiet_step (fun K hK => ?_)
        rw [if_pos (by rfl)]
        refine ⟨.slice (some ⟨b, o, none⟩) 1 c, fun w' hw' => ?_, hK _ ?_⟩
        · have c1 := (hw'.cell (p := ⟨w.heap.size, 3, none⟩) (Nat.lt_succ_self _)).trans HM3.out
          go_simp
        clear hK K
        refine wpQuiet_step (fun K hK => ?_)
        go_simp
        refine ⟨_, fun _ _ => rfl, hK _ ?_⟩
        clear hK K
        refine wpQuiet_step (fun K hK => ?_)
        go_simp
        refine ⟨_, fun _ _ => rfl, hK _ ?_⟩
        clear hK K
        refine wpQuiet_step (fun K hK => ?_)
        rw [if_pos (by rfl)]
        refine ⟨.slice ax nx cx, fun w' hw' => ?_, hK _ ?_⟩
        · have c1 := (hw'.cell (p := ⟨b, o + 1, none⟩) HL1.out).trans HE2.out
          go_simp
        clear hK K
        refine wpQuiet_step (fun K hK => ?_)
        go_simp
        refine ⟨_, fun _ _ => rfl, hK _ ?_⟩
        clear hK K
        refine wpQuiet_step (fun K hK => ?_)
        go_simp
        refine ⟨_, fun _ _ => rfl, hK _ ?_⟩
        clear hK K
        refine wpQuiet_step (fun K hK => ?_)
        go_simp
        refine ⟨_, fun _ _ => rfl, hK _ ?_⟩
        clear hK K
        refine wpQuiet_step (fun K hK => ?_)
        go_simp
        refine ⟨_, fun _ _ => rfl, hK _ ?_⟩
        clear hK K
        refine wpQuiet_step (fun K hK => ?_)
        go_simp
        refine ⟨_, fun _ _ => rfl, hK _ ?_⟩
        clear hK K
        refine wpQuiet_step (fun K hK => ?_)
        rw [if_pos (by rfl)]
        refine ⟨.string nb, fun w' hw' => ?_, hK _ ?_⟩
        · have c1 := (hw'.cell (p := ⟨b2, o2 + m, none⟩) HL2.out).trans HD2.out
          go_simp
        clear hK K
        refine wpQuiet_step (fun K hK => ?_)
        rw [if_pos (by rfl)]
        refine ⟨.bool dd, fun w' hw' => ?_, hK _ ?_⟩
        · go_simp
          refine (HMT.out w' hw').mono ?_
          rintro r wn ⟨rfl, hbn⟩
          exact ⟨rfl, hw'.trans (hbn.mono (by rw [← HSA.out]; exact hw'.size))⟩
        clear hK K
        refine wpQuiet_step (fun K hK => ?_)
        go_simp
        refine ⟨_, fun _ _ => rfl, hK _ ?_⟩
        clear hK K
        refine wpQuiet_nil ?_
        intro w' hw'
        have HB2 := hid (HBA.out.trans (hw'.mono (Nat.le_succ _)))
        clear hw'
        go_wp2
        go_ret
        exact ⟨by rw [HR.out]; rfl, HB2.out⟩
      · go_enter Tryz.func24, Tryz.ntmps24
        go_wp2
        refine wp_region_class (C := fun w' => Below (w.heap.size + 1) (w.alloc (Obj.cells #[.bool back, .bool false, .bool false, .slice (some ⟨b, o, none⟩) 1 c] 52 (0, 0))) w') (by kernel_rfl) (by kernel_rfl) (below_drewN (Below.refl _ _) 1) ?_
        refine wpQuiet_step (fun K hK => ?_)
        go_simp
        refine ⟨_, fun _ _ => rfl, hK _ ?_⟩
        clear hK K
        refine wpQuiet_step (fun K hK => ?_)
        rw [if_pos (by rfl)]
        refine ⟨.slice (some ⟨b, o, none⟩) 1 c, fun w' hw' => ?_, hK _ ?_⟩
        · have c1 := (hw'.cell (p := ⟨w.heap.size, 3, none⟩) (Nat.lt_succ_self _)).trans HM3.out
          go_simp
        clear hK K
        refine wpQuiet_step (fun K hK => ?_)
        go_simp
        refine ⟨_, fun _ _ => rfl, hK _ ?_⟩
        clear hK K
        refine wpQuiet_step (fun K hK => ?_)
        go_simp
        refine ⟨_, fun _ _ => rfl, hK _ ?_⟩
        clear hK K
        refine wpQuiet_step (fun K hK => ?_)
        rw [if_pos (by rfl)]
        refine ⟨.slice ax nx cx, fun w' hw' => ?_, hK _ ?_⟩
        · have c1 := (hw'.cell (p := ⟨b, o + 1, none⟩) HL1.out).trans HE2.out
          go_simp
        clear hK K
        refine wpQuiet_step (fun K hK => ?_)
        go_simp
        refine ⟨_, fun _ _ => rfl, hK _ ?_⟩
        clear hK K
        refine wpQuiet_step (fun K hK => ?_)
        go_simp
        refine ⟨_, fun _ _ => rfl, hK _ ?_⟩
        clear hK K
        refine wpQuiet_step (fun K hK => ?_)
        go_simp
        refine ⟨_, fun _ _ => rfl, hK _ ?_⟩
        clear hK K
        refine wpQuiet_step (fun K hK => ?_)
        go_simp
        refine ⟨_, fun _ _ => rfl, hK _ ?_⟩
        clear hK K
        refine wpQuiet_step (fun K hK => ?_)
        go_simp
        refine ⟨_, fun _ _ => rfl, hK _ ?_⟩
        clear hK K
        refine wpQuiet_step (fun K hK => ?_)
        rw [if_pos (by rfl)]
        refine ⟨.string nb, fun w' hw' => ?_, hK _ ?_⟩
        · have c1 := (hw'.cell (p := ⟨b2, o2 + m, none⟩) HL2.out).trans HD2.out
          go_simp
        clear hK K
        refine wpQuiet_step (fun K hK => ?_)
        rw [if_pos (by rfl)]
        refine ⟨.bool dd, fun w' hw' => ?_, hK _ ?_⟩
        · go_simp
          refine (HMT.out w' hw').mono ?_
          rintro r wn ⟨rfl, hbn⟩
          exact ⟨rfl, hw'.trans (hbn.mono (by rw [← HSA.out]; exact hw'.size))⟩
        clear hK K
        refine wpQuiet_step (fun K hK => ?_)
        go_simp
        refine ⟨_, fun _ _ => rfl, hK _ ?_⟩
        clear hK K
        refine wpQuiet_nil ?_
        intro w' hw'
        have HB2 := hid (HBA.out.trans (hw'.mono (Nat.le_succ _)))
        clear hw'
        go_wp2
        go_ret
        exact ⟨by rw [HR.out]; rfl, HB2.out⟩
      · go_enter Tryz.func24, Tryz.ntmps24
        go_wp2
        refine wp_region_class (C := fun w' => Below (w.heap.size + 1) (w.alloc (Obj.cells #[.bool back, .bool false, .bool false, .slice (some ⟨b, o, none⟩) 1 c] 52 (0, 0))) w') (by kernel_rfl) (by kernel_rfl) (below_drewN (Below.refl _ _) 1) ?_
        refine wpQuiet_step (fun K hK => ?_)
        go_simp
        refine ⟨_, fun _ _ => rfl, hK _ ?_⟩
        clear hK K
        refine wpQuiet_step (fun K hK => ?_)
        rw [if_pos (by rfl)]
        refine ⟨.slice (some ⟨b, o, none⟩) 1 c, fun w' hw' => ?_, hK _ ?_⟩
        · have c1 := (hw'.cell (p := ⟨w.heap.size, 3, none⟩) (Nat.lt_succ_self _)).trans HM3.out
          go_simp
        clear hK K
        refine wpQuiet_step (fun K hK => ?_)
        go_simp
        refine ⟨_, fun _ _ => rfl, hK _ ?_⟩
        clear hK K
        refine wpQuiet_step (fun K hK => ?_)
        go_simp
        refine ⟨_, fun _ _ => rfl, hK _ ?_⟩
        clear hK K
        refine wpQuiet_step (fun K hK => ?_)
        rw [if_pos (by rfl)]
        refine ⟨.slice ax nx cx, fun w' hw' => ?_, hK _ ?_⟩
        · have c1 := (hw'.cell (p := ⟨b, o + 1, none⟩) HL1.out).trans HE2.out
          go_simp
        clear hK K
        refine wpQuiet_step (fun K hK => ?_)
        go_simp
        refine ⟨_, fun _ _ => rfl, hK _ ?_⟩
        clear hK K
        refine wpQuiet_step (fun K hK => ?_)
        go_simp
        refine ⟨_, fun _ _ => rfl, hK _ ?_⟩
        clear hK K
        refine wpQuiet_step (fun K hK => ?_)
        go_simp
        refine ⟨_, fun _ _ => rfl, hK _ ?_⟩
        clear hK K
        refine wpQuiet_step (fun K hK => ?_)
        go_simp
        refine ⟨_, fun _ _ => rfl, hK _ ?_⟩
        clear hK K
        refine wpQuiet_step (fun K hK => ?_)
        go_simp
        refine ⟨_, fun _ _ => rfl, hK _ ?_⟩
        clear hK K
        refine wpQuiet_step (fun K hK => ?_)
        rw [if_pos (by rfl)]
        refine ⟨.string nb, fun w' hw' => ?_, hK _ ?_⟩
        · have c1 := (hw'.cell (p := ⟨b2, o2 + m, none⟩) HL2.out).trans HD2.out
          go_simp
        clear hK K
        refine wpQuiet_step (fun K hK => ?_)
        rw [if_pos (by rfl)]
        refine ⟨.bool dd, fun w' hw' => ?_, hK _ ?_⟩
        · go_simp
          refine (HMT.out w' hw').mono ?_
          rintro r wn ⟨rfl, hbn⟩
          exact ⟨rfl, hw'.trans (hbn.mono (by rw [← HSA.out]; exact hw'.size))⟩
        clear hK K
        refine wpQuiet_step (fun K hK => ?_)
        go_simp
        refine ⟨_, fun _ _ => rfl, hK _ ?_⟩
        clear hK K
        refine wpQuiet_nil ?_
        intro w' hw'
        have HB2 := hid (HBA.out.trans (hw'.mono (Nat.le_succ _)))
        clear hw'
        go_wp2
        go_ret
        exact ⟨by rw [HR.out]; rfl, HB2.out⟩
end Go.Proofs.YtfjhjhjdneihbaaGreatDoor
