/-
  PROVED: the card of GlobRules, for inputs of bulk up to 1048576: for every such text and list of paths GlobRules returns true, and both read afterwards as they read before; the card ties what errors.errorType and the two tables of unicode/utf8 hold to the program's text (a pruned copy of the project: the packages that this law loads).
-/
import Derived.Test.YtfjhjhjdneihbaaGreatDoorIb
import Derived.Carry
namespace Go.Proofs.YtfjhjhjdneihbaaGreatDoor.globRules
open Go.ChangeShapes Go.WideShapes Go.ChangeAt Go.RowKit
open Go.ChangeMaps (open_string shut_string)

set_option maxHeartbeats 3000000 in
set_option maxRecDepth 100000 in
theorem walk (s : ByteArray) (v : Value) (xs : List ByteArray) (w : World) (hs : s.size ≤ 1048576) (hr : Rd w v xs) (hn : (DL xs).flatten.length + xs.length ≤ 1048576) (_hsh : v = .slice none 0 0 ∨ ∃ ad n c, v = .slice (some ad) n c) (hg : ErrVar w ∧ MaxVar w) :
    Calls Tryz.prog 3 #[.string s, v] w fun e w' => e = .returned (.bool true) ∧ Below w.heap.size w w' := by
  have HS : Hid (St w w) := hid ⟨hg.1, hg.2, Below.refl _ _⟩
  have HSX := hid (small_of hn)
  have hxl : xs.length ≤ 1048576 := by omega
  have HR := hid hr
  obtain ⟨av, cv, rfl, hcv⟩ := rd_shape_cap hr
  obtain ⟨T, hT⟩ : ∃ T, T = xs.length := ⟨_, rfl⟩
  have HT := hid hT
  rw [← hT] at hxl hcv HR ⊢
  have HRD := hid (rdF_ddL s.data.toList)
  have HR1 := hid (fun (W : World) (h : MaxVar W) => read_any s W (by omega) h)
  have HR2 := hid (fun (W : World) => refRead_any s W (by omega))
  have HGD := hid (fun ds h => good_of (l := s.data.toList) (ds := ds) (by rw [size_data]; omega) h)
  clear hg hr hn _hsh hT
  cases hd : ddL (lns s.data.toList) 1 [] with
  | inl e =>
    obtain ⟨k, K⟩ := e
    rw [hd] at HRD HR2
    rw [HRD.out] at HR1
    clear hd HRD HGD
    go_enter Tryz.func3, Tryz.ntmps3
    go_wp2_with fail
    refine (HR1.out w HS.out.2.1).mono ?_
    rintro e w1 ⟨hP, hb1⟩
    have HS1 := hid (HS.out.next hb1)
    clear hb1
    rcases hP with ⟨k', n', h1, hK, rfl⟩ | ⟨rs, br, h1, _, _⟩
    case inr => cases h1
    cases h1
    have hK0 : ((K : Int) == 0) = false := beq_eq_false_iff_ne.2 (by omega)
    have hK1 : ((K : Int) != 0) = true := by rw [bne, hK0]; rfl
    clear hK
    go_wp2_with fail
    refine (HR2.out w1).mono ?_
    rintro e w2 ⟨hP, hb2⟩
    have HS2 := hid (HS1.out.next hb2)
    clear hb2
    rcases hP with ⟨k', n', h1, _, rfl⟩ | ⟨rs, br, h1, _, _⟩
    case inr => cases h1
    cases h1
    go_wp2_with fail
    refine (num_errno K w2 HS2.out.1).mono ?_
    rintro e w3 ⟨rfl, hb3⟩
    have HS3 := hid (HS2.out.next hb3)
    clear hb3 HS HS1 HS2 HR1 HR2
    go_wp2
    go_loopw [11] (fun i wr => i = .int .i64 0 ∧ wr = w3) (fun _ _ => 0)
    case atStart => exact ⟨rfl, rfl⟩
    case round =>
      obtain ⟨rfl, rfl⟩ := hrel
      by_cases h0 : 0 < T
      · have h0i : (0 : Int) < (T : Int) := by omega
        go_wp2_with fail
        refine (works_st HS3.out).mono ?_
        rintro e w4 ⟨rfl, hb4⟩
        go_wp2
        go_ret
        exact ⟨rfl, hb4⟩
      · obtain rfl : T = 0 := by omega
        go_wp2_with fail
        refine (works_st HS3.out).mono ?_
        rintro e w4 ⟨rfl, hb4⟩
        go_wp2
        go_ret
        exact ⟨rfl, hb4⟩
  | inr ds =>
    have HG := hid (HGD.out ds hd)
    rw [hd] at HRD HR2
    rw [HRD.out] at HR1
    clear hd HRD HGD
    go_enter Tryz.func3, Tryz.ntmps3
    go_wp2_with fail
    refine (HR1.out w HS.out.2.1).mono ?_
    rintro e w1 ⟨hP, hb1⟩
    have HS1 := hid (HS.out.next hb1)
    clear hb1
    rcases hP with ⟨k', n', h1, _, _⟩ | ⟨rs, br, h1, rfl, hA⟩
    case inl => cases h1
    cases h1
    have HA1 := hid hA
    clear hA
    go_wp2_with fail
    refine (HR2.out w1).mono ?_
    rintro e w2 ⟨hP, hb2⟩
    have HS2 := hid (HS1.out.next hb2)
    have HA2 := hid (HA1.out.later hb2)
    clear hb2
    rcases hP with ⟨k', n', h1, _, _⟩ | ⟨ds', v2, h1, rfl, hO⟩
    case inl => cases h1
    cases h1
    have HO2 := hid hO.read
    obtain ⟨ao, co, e⟩ := hO.shape
    subst e
    clear hO
    go_wp2_with fail
    refine (num_nil w2).mono ?_
    rintro e w3 ⟨rfl, hb3⟩
    have HS3 := hid (HS2.out.next hb3)
    have HA3 := hid (HA2.out.later hb3)
    have HO3 := hid (HO2.out.later hb3)
    have HX3 := hid (HR.out.below HS3.out.2.2)
    generalize w1.heap.size = B at HO3
    clear hb3 HS HS1 HS2 HR1 HR2 HA1 HA2 HO2
    go_wp2
    go_loopw [11] (fun i wr => ∃ j : Nat, j ≤ T ∧ i = .int .i64 j ∧ Hid (Below w3.heap.size w3 wr)) (fun i _ => T - (intOf i).toNat)
    case atStart => exact ⟨0, Nat.zero_le _, rfl, hid (Below.refl _ _)⟩
    case round =>
      obtain ⟨j, hj, rfl, HBJ⟩ := hrel
      have HSJ := hid (HS3.out.next HBJ.out)
      by_cases hlt : j < T
      · have hlti : (j : Int) < (T : Int) := by omega
        by_cases h30 : j < 30
        · have h30i : (j : Int) < 30 := by omega
          obtain ⟨b2, o2, c2, xb, e, hxb, hlb, _, d2⟩ := HX3.out.at (k := j) (by rw [← HT.out]; exact hlt)
          rw [← HT.out] at e
          cases e
          have hxs := HSX.out xb (List.mem_of_getElem? hxb)
          have HE := hid (fun dir => digP_ru ds xb.data.toList dir HG.out.2.2.1)
          have HLB := hid hlb
          have HD2 := hid d2
          have HI1 := hid (fun (W : World) (hW : Below w3.heap.size w3 W) => ignored_any xb true (HA3.out.later hW) HG.out.1 (by omega) (by rw [List.length_map]; exact HG.out.2.1) (HS3.out.next hW).2.1)
          have HI3 := hid (fun (W : World) (hW : Below w3.heap.size w3 W) => ignored_any xb false (HA3.out.later hW) HG.out.1 (by omega) (by rw [List.length_map]; exact HG.out.2.1) (HS3.out.next hW).2.1)
          have HI2 := hid (fun (W : World) (hW : Below w3.heap.size w3 W) => refIgnored_any ds HG.out.2.2.1 HG.out.2.1 HG.out.2.2.2 xb (by omega) true B W _ (HO3.out.later hW))
          have HI4 := hid (fun (W : World) (hW : Below w3.heap.size w3 W) => refIgnored_any ds HG.out.2.2.1 HG.out.2.1 HG.out.2.2.2 xb (by omega) false B W _ (HO3.out.later hW))
          rw [← HE.out true] at HI1
          rw [← HE.out false] at HI3
          have j1 : (0 : Int) ≤ (j : Int) := by omega
          have j3 : IntKind.i64.wrap ((j : Int) + 1) = (j : Int) + 1 := by rw [IntKind.wrap_i64]; omega
          generalize digP ds xb.data.toList true = g1 at HI1 HI2
          generalize digP ds xb.data.toList false = g2 at HI3 HI4
          clear hxb hlb d2 hxs HE
          cases g1 with
          | true =>
            cases g2 with
            | true =>
              go_wp2
              refine wp_region_class (C := fun w' => Below w3.heap.size w3 w') (by kernel_rfl) (by kernel_rfl) (below_drewN HBJ.out 1) ?_
              refine wpQuiet_step (fun K hK => ?_)
              go_simp
              refine ⟨_, fun _ _ => rfl, hK _ ?_⟩
              clear hK K
              refine wpQuiet_step (fun K hK => ?_)
              go_simp
              refine ⟨_, fun _ _ => rfl, hK _ ?_⟩
              clear hK K
              refine wpQuiet_step (fun K hK => ?_)
              go_simp
              refine ⟨_, fun _ _ => rfl, hK _ ?_⟩
              clear hK K
              refine wpQuiet_step (fun K hK => ?_)
              go_simp
              refine ⟨_, fun _ _ => rfl, hK _ ?_⟩
              clear hK K
              refine wpQuiet_step (fun K hK => ?_)
              rw [if_pos (by rfl)]
              refine ⟨.string xb, fun w' hw' => ?_, hK _ ?_⟩
              · have c1 := (hw'.cell (p := ⟨b2, o2 + j, none⟩) HLB.out).trans HD2.out
                go_simp
              clear hK K
              refine wpQuiet_step (fun K hK => ?_)
              rw [if_pos (by rfl)]
              refine ⟨.bool true, fun w' hw' => ?_, hK _ ?_⟩
              · go_simp
                refine (HI1.out w' hw').mono ?_
                rintro r wn ⟨rfl, hbn⟩
                exact ⟨rfl, hw'.trans (hbn.mono hw'.size)⟩
              clear hK K
              refine wpQuiet_step (fun K hK => ?_)
              go_simp
              refine ⟨_, fun _ _ => rfl, hK _ ?_⟩
              clear hK K
              refine wpQuiet_step (fun K hK => ?_)
              go_simp
              refine ⟨_, fun _ _ => rfl, hK _ ?_⟩
              clear hK K
              refine wpQuiet_step (fun K hK => ?_)
              go_simp
              refine ⟨_, fun _ _ => rfl, hK _ ?_⟩
              clear hK K
              refine wpQuiet_step (fun K hK => ?_)
              go_simp
              refine ⟨_, fun _ _ => rfl, hK _ ?_⟩
              clear hK K
              refine wpQuiet_step (fun K hK => ?_)
              rw [if_pos (by rfl)]
              refine ⟨.string xb, fun w' hw' => ?_, hK _ ?_⟩
              · have c1 := (hw'.cell (p := ⟨b2, o2 + j, none⟩) HLB.out).trans HD2.out
                go_simp
              clear hK K
              refine wpQuiet_step (fun K hK => ?_)
              rw [if_pos (by rfl)]
              refine ⟨.bool true, fun w' hw' => ?_, hK _ ?_⟩
              · go_simp
                refine (HI2.out w' hw').mono ?_
                rintro r wn ⟨rfl, hbn⟩
                exact ⟨rfl, hw'.trans (hbn.mono hw'.size)⟩
              clear hK K
              refine wpQuiet_step (fun K hK => ?_)
              go_simp
              refine ⟨_, fun _ _ => rfl, hK _ ?_⟩
              clear hK K
              refine wpQuiet_step (fun K hK => ?_)
              go_simp
              refine ⟨_, fun _ _ => rfl, hK _ ?_⟩
              clear hK K
              refine wpQuiet_step (fun K hK => ?_)
              go_simp
              refine ⟨_, fun _ _ => rfl, hK _ ?_⟩
              clear hK K
              refine wpQuiet_step (fun K hK => ?_)
              go_simp
              refine ⟨_, fun _ _ => rfl, hK _ ?_⟩
              clear hK K
              refine wpQuiet_step (fun K hK => ?_)
              go_simp
              refine ⟨_, fun _ _ => rfl, hK _ ?_⟩
              clear hK K
              refine wpQuiet_step (fun K hK => ?_)
              go_simp
              refine ⟨_, fun _ _ => rfl, hK _ ?_⟩
              clear hK K
              refine wpQuiet_step (fun K hK => ?_)
              rw [if_pos (by rfl)]
              refine ⟨.string xb, fun w' hw' => ?_, hK _ ?_⟩
              · have c1 := (hw'.cell (p := ⟨b2, o2 + j, none⟩) HLB.out).trans HD2.out
                go_simp
              clear hK K
              refine wpQuiet_step (fun K hK => ?_)
              rw [if_pos (by rfl)]
              refine ⟨.bool true, fun w' hw' => ?_, hK _ ?_⟩
              · go_simp
                refine (HI3.out w' hw').mono ?_
                rintro r wn ⟨rfl, hbn⟩
                exact ⟨rfl, hw'.trans (hbn.mono hw'.size)⟩
              clear hK K
              refine wpQuiet_step (fun K hK => ?_)
              go_simp
              refine ⟨_, fun _ _ => rfl, hK _ ?_⟩
              clear hK K
              refine wpQuiet_step (fun K hK => ?_)
              go_simp
              refine ⟨_, fun _ _ => rfl, hK _ ?_⟩
              clear hK K
              refine wpQuiet_step (fun K hK => ?_)
              go_simp
              refine ⟨_, fun _ _ => rfl, hK _ ?_⟩
              clear hK K
              refine wpQuiet_step (fun K hK => ?_)
              go_simp
              refine ⟨_, fun _ _ => rfl, hK _ ?_⟩
              clear hK K
              refine wpQuiet_step (fun K hK => ?_)
              rw [if_pos (by rfl)]
              refine ⟨.string xb, fun w' hw' => ?_, hK _ ?_⟩
              · have c1 := (hw'.cell (p := ⟨b2, o2 + j, none⟩) HLB.out).trans HD2.out
                go_simp
              clear hK K
              refine wpQuiet_step (fun K hK => ?_)
              rw [if_pos (by rfl)]
              refine ⟨.bool true, fun w' hw' => ?_, hK _ ?_⟩
              · go_simp
                refine (HI4.out w' hw').mono ?_
                rintro r wn ⟨rfl, hbn⟩
                exact ⟨rfl, hw'.trans (hbn.mono hw'.size)⟩
              clear hK K
              refine wpQuiet_step (fun K hK => ?_)
              go_simp
              refine ⟨_, fun _ _ => rfl, hK _ ?_⟩
              clear hK K
              refine wpQuiet_step (fun K hK => ?_)
              go_simp
              refine ⟨_, fun _ _ => rfl, hK _ ?_⟩
              clear hK K
              refine wpQuiet_nil ?_
              intro w4 hw4
              have HB4 := hid hw4
              clear hw4
              go_wp2
              exact ⟨⟨j + 1, by omega, by push_cast; rfl, HB4⟩, by simp [intOf]; omega⟩
            | false =>
              go_wp2
              refine wp_region_class (C := fun w' => Below w3.heap.size w3 w') (by kernel_rfl) (by kernel_rfl) (below_drewN HBJ.out 1) ?_
              refine wpQuiet_step (fun K hK => ?_)
              go_simp
              refine ⟨_, fun _ _ => rfl, hK _ ?_⟩
              clear hK K
              refine wpQuiet_step (fun K hK => ?_)
              go_simp
              refine ⟨_, fun _ _ => rfl, hK _ ?_⟩
              clear hK K
              refine wpQuiet_step (fun K hK => ?_)
              go_simp
              refine ⟨_, fun _ _ => rfl, hK _ ?_⟩
              clear hK K
              refine wpQuiet_step (fun K hK => ?_)
              go_simp
              refine ⟨_, fun _ _ => rfl, hK _ ?_⟩
              clear hK K
              refine wpQuiet_step (fun K hK => ?_)
              rw [if_pos (by rfl)]
              refine ⟨.string xb, fun w' hw' => ?_, hK _ ?_⟩
              · have c1 := (hw'.cell (p := ⟨b2, o2 + j, none⟩) HLB.out).trans HD2.out
                go_simp
              clear hK K
              refine wpQuiet_step (fun K hK => ?_)
              rw [if_pos (by rfl)]
              refine ⟨.bool true, fun w' hw' => ?_, hK _ ?_⟩
              · go_simp
                refine (HI1.out w' hw').mono ?_
                rintro r wn ⟨rfl, hbn⟩
                exact ⟨rfl, hw'.trans (hbn.mono hw'.size)⟩
              clear hK K
              refine wpQuiet_step (fun K hK => ?_)
              go_simp
              refine ⟨_, fun _ _ => rfl, hK _ ?_⟩
              clear hK K
              refine wpQuiet_step (fun K hK => ?_)
              go_simp
              refine ⟨_, fun _ _ => rfl, hK _ ?_⟩
              clear hK K
              refine wpQuiet_step (fun K hK => ?_)
              go_simp
              refine ⟨_, fun _ _ => rfl, hK _ ?_⟩
              clear hK K
              refine wpQuiet_step (fun K hK => ?_)
              go_simp
              refine ⟨_, fun _ _ => rfl, hK _ ?_⟩
              clear hK K
              refine wpQuiet_step (fun K hK => ?_)
              rw [if_pos (by rfl)]
              refine ⟨.string xb, fun w' hw' => ?_, hK _ ?_⟩
              · have c1 := (hw'.cell (p := ⟨b2, o2 + j, none⟩) HLB.out).trans HD2.out
                go_simp
              clear hK K
              refine wpQuiet_step (fun K hK => ?_)
              rw [if_pos (by rfl)]
              refine ⟨.bool true, fun w' hw' => ?_, hK _ ?_⟩
              · go_simp
                refine (HI2.out w' hw').mono ?_
                rintro r wn ⟨rfl, hbn⟩
                exact ⟨rfl, hw'.trans (hbn.mono hw'.size)⟩
              clear hK K
              refine wpQuiet_step (fun K hK => ?_)
              go_simp
              refine ⟨_, fun _ _ => rfl, hK _ ?_⟩
              clear hK K
              refine wpQuiet_step (fun K hK => ?_)
              go_simp
              refine ⟨_, fun _ _ => rfl, hK _ ?_⟩
              clear hK K
              refine wpQuiet_step (fun K hK => ?_)
              go_simp
              refine ⟨_, fun _ _ => rfl, hK _ ?_⟩
              clear hK K
              refine wpQuiet_step (fun K hK => ?_)
              go_simp
              refine ⟨_, fun _ _ => rfl, hK _ ?_⟩
              clear hK K
              refine wpQuiet_step (fun K hK => ?_)
              go_simp
              refine ⟨_, fun _ _ => rfl, hK _ ?_⟩
              clear hK K
              refine wpQuiet_step (fun K hK => ?_)
              go_simp
              refine ⟨_, fun _ _ => rfl, hK _ ?_⟩
              clear hK K
              refine wpQuiet_step (fun K hK => ?_)
              rw [if_pos (by rfl)]
              refine ⟨.string xb, fun w' hw' => ?_, hK _ ?_⟩
              · have c1 := (hw'.cell (p := ⟨b2, o2 + j, none⟩) HLB.out).trans HD2.out
                go_simp
              clear hK K
              refine wpQuiet_step (fun K hK => ?_)
              rw [if_pos (by rfl)]
              refine ⟨.bool false, fun w' hw' => ?_, hK _ ?_⟩
              · go_simp
                refine (HI3.out w' hw').mono ?_
                rintro r wn ⟨rfl, hbn⟩
                exact ⟨rfl, hw'.trans (hbn.mono hw'.size)⟩
              clear hK K
              refine wpQuiet_step (fun K hK => ?_)
              go_simp
              refine ⟨_, fun _ _ => rfl, hK _ ?_⟩
              clear hK K
              refine wpQuiet_step (fun K hK => ?_)
              go_simp
              refine ⟨_, fun _ _ => rfl, hK _ ?_⟩
              clear hK K
              refine wpQuiet_step (fun K hK => ?_)
              go_simp
              refine ⟨_, fun _ _ => rfl, hK _ ?_⟩
              clear hK K
              refine wpQuiet_step (fun K hK => ?_)
              go_simp
              refine ⟨_, fun _ _ => rfl, hK _ ?_⟩
              clear hK K
              refine wpQuiet_step (fun K hK => ?_)
              rw [if_pos (by rfl)]
              refine ⟨.string xb, fun w' hw' => ?_, hK _ ?_⟩
              · have c1 := (hw'.cell (p := ⟨b2, o2 + j, none⟩) HLB.out).trans HD2.out
                go_simp
              clear hK K
              refine wpQuiet_step (fun K hK => ?_)
              rw [if_pos (by rfl)]
              refine ⟨.bool false, fun w' hw' => ?_, hK _ ?_⟩
              · go_simp
                refine (HI4.out w' hw').mono ?_
                rintro r wn ⟨rfl, hbn⟩
                exact ⟨rfl, hw'.trans (hbn.mono hw'.size)⟩
              clear hK K
              refine wpQuiet_step (fun K hK => ?_)
              go_simp
              refine ⟨_, fun _ _ => rfl, hK _ ?_⟩
              clear hK K
              refine wpQuiet_step (fun K hK => ?_)
              go_simp
              refine ⟨_, fun _ _ => rfl, hK _ ?_⟩
              clear hK K
              refine wpQuiet_nil ?_
              intro w4 hw4
              have HB4 := hid hw4
              clear hw4
              go_wp2
              exact ⟨⟨j + 1, by omega, by push_cast; rfl, HB4⟩, by simp [intOf]; omega⟩
          | false =>
            cases g2 with
            | true =>
              go_wp2
              refine wp_region_class (C := fun w' => Below w3.heap.size w3 w') (by kernel_rfl) (by kernel_rfl) (below_drewN HBJ.out 1) ?_
              refine wpQuiet_step (fun K hK => ?_)
              go_simp
              refine ⟨_, fun _ _ => rfl, hK _ ?_⟩
              clear hK K
              refine wpQuiet_step (fun K hK => ?_)
              go_simp
              refine ⟨_, fun _ _ => rfl, hK _ ?_⟩
              clear hK K
              refine wpQuiet_step (fun K hK => ?_)
              go_simp
              refine ⟨_, fun _ _ => rfl, hK _ ?_⟩
              clear hK K
              refine wpQuiet_step (fun K hK => ?_)
              go_simp
              refine ⟨_, fun _ _ => rfl, hK _ ?_⟩
              clear hK K
              refine wpQuiet_step (fun K hK => ?_)
              rw [if_pos (by rfl)]
              refine ⟨.string xb, fun w' hw' => ?_, hK _ ?_⟩
              · have c1 := (hw'.cell (p := ⟨b2, o2 + j, none⟩) HLB.out).trans HD2.out
                go_simp
              clear hK K
              refine wpQuiet_step (fun K hK => ?_)
              rw [if_pos (by rfl)]
              refine ⟨.bool false, fun w' hw' => ?_, hK _ ?_⟩
              · go_simp
                refine (HI1.out w' hw').mono ?_
                rintro r wn ⟨rfl, hbn⟩
                exact ⟨rfl, hw'.trans (hbn.mono hw'.size)⟩
              clear hK K
              refine wpQuiet_step (fun K hK => ?_)
              go_simp
              refine ⟨_, fun _ _ => rfl, hK _ ?_⟩
              clear hK K
              refine wpQuiet_step (fun K hK => ?_)
              go_simp
              refine ⟨_, fun _ _ => rfl, hK _ ?_⟩
              clear hK K
              refine wpQuiet_step (fun K hK => ?_)
              go_simp
              refine ⟨_, fun _ _ => rfl, hK _ ?_⟩
              clear hK K
              refine wpQuiet_step (fun K hK => ?_)
              go_simp
              refine ⟨_, fun _ _ => rfl, hK _ ?_⟩
              clear hK K
              refine wpQuiet_step (fun K hK => ?_)
              rw [if_pos (by rfl)]
              refine ⟨.string xb, fun w' hw' => ?_, hK _ ?_⟩
              · have c1 := (hw'.cell (p := ⟨b2, o2 + j, none⟩) HLB.out).trans HD2.out
                go_simp
              clear hK K
              refine wpQuiet_step (fun K hK => ?_)
              rw [if_pos (by rfl)]
              refine ⟨.bool false, fun w' hw' => ?_, hK _ ?_⟩
              · go_simp
                refine (HI2.out w' hw').mono ?_
                rintro r wn ⟨rfl, hbn⟩
                exact ⟨rfl, hw'.trans (hbn.mono hw'.size)⟩
              clear hK K
              refine wpQuiet_step (fun K hK => ?_)
              go_simp
              refine ⟨_, fun _ _ => rfl, hK _ ?_⟩
              clear hK K
              refine wpQuiet_step (fun K hK => ?_)
              go_simp
              refine ⟨_, fun _ _ => rfl, hK _ ?_⟩
              clear hK K
              refine wpQuiet_step (fun K hK => ?_)
              go_simp
              refine ⟨_, fun _ _ => rfl, hK _ ?_⟩
              clear hK K
              refine wpQuiet_step (fun K hK => ?_)
              go_simp
              refine ⟨_, fun _ _ => rfl, hK _ ?_⟩
              clear hK K
              refine wpQuiet_step (fun K hK => ?_)
              go_simp
              refine ⟨_, fun _ _ => rfl, hK _ ?_⟩
              clear hK K
              refine wpQuiet_step (fun K hK => ?_)
              go_simp
              refine ⟨_, fun _ _ => rfl, hK _ ?_⟩
              clear hK K
              refine wpQuiet_step (fun K hK => ?_)
              rw [if_pos (by rfl)]
              refine ⟨.string xb, fun w' hw' => ?_, hK _ ?_⟩
              · have c1 := (hw'.cell (p := ⟨b2, o2 + j, none⟩) HLB.out).trans HD2.out
                go_simp
              clear hK K
              refine wpQuiet_step (fun K hK => ?_)
              rw [if_pos (by rfl)]
              refine ⟨.bool true, fun w' hw' => ?_, hK _ ?_⟩
              · go_simp
                refine (HI3.out w' hw').mono ?_
                rintro r wn ⟨rfl, hbn⟩
                exact ⟨rfl, hw'.trans (hbn.mono hw'.size)⟩
              clear hK K
              refine wpQuiet_step (fun K hK => ?_)
              go_simp
              refine ⟨_, fun _ _ => rfl, hK _ ?_⟩
              clear hK K
              refine wpQuiet_step (fun K hK => ?_)
              go_simp
              refine ⟨_, fun _ _ => rfl, hK _ ?_⟩
              clear hK K
              refine wpQuiet_step (fun K hK => ?_)
              go_simp
              refine ⟨_, fun _ _ => rfl, hK _ ?_⟩
              clear hK K
              refine wpQuiet_step (fun K hK => ?_)
              go_simp
              refine ⟨_, fun _ _ => rfl, hK _ ?_⟩
              clear hK K
              refine wpQuiet_step (fun K hK => ?_)
              rw [if_pos (by rfl)]
              refine ⟨.string xb, fun w' hw' => ?_, hK _ ?_⟩
              · have c1 := (hw'.cell (p := ⟨b2, o2 + j, none⟩) HLB.out).trans HD2.out
                go_simp
              clear hK K
              refine wpQuiet_step (fun K hK => ?_)
              rw [if_pos (by rfl)]
              refine ⟨.bool true, fun w' hw' => ?_, hK _ ?_⟩
              · go_simp
                refine (HI4.out w' hw').mono ?_
                rintro r wn ⟨rfl, hbn⟩
                exact ⟨rfl, hw'.trans (hbn.mono hw'.size)⟩
              clear hK K
              refine wpQuiet_step (fun K hK => ?_)
              go_simp
              refine ⟨_, fun _ _ => rfl, hK _ ?_⟩
              clear hK K
              refine wpQuiet_step (fun K hK => ?_)
              go_simp
              refine ⟨_, fun _ _ => rfl, hK _ ?_⟩
              clear hK K
              refine wpQuiet_nil ?_
              intro w4 hw4
              have HB4 := hid hw4
              clear hw4
              go_wp2
              exact ⟨⟨j + 1, by omega, by push_cast; rfl, HB4⟩, by simp [intOf]; omega⟩
            | false =>
              go_wp2
              refine wp_region_class (C := fun w' => Below w3.heap.size w3 w') (by kernel_rfl) (by kernel_rfl) (below_drewN HBJ.out 1) ?_
              refine wpQuiet_step (fun K hK => ?_)
              go_simp
              refine ⟨_, fun _ _ => rfl, hK _ ?_⟩
              clear hK K
              refine wpQuiet_step (fun K hK => ?_)
              go_simp
              refine ⟨_, fun _ _ => rfl, hK _ ?_⟩
              clear hK K
              refine wpQuiet_step (fun K hK => ?_)
              go_simp
              refine ⟨_, fun _ _ => rfl, hK _ ?_⟩
              clear hK K
              refine wpQuiet_step (fun K hK => ?_)
              go_simp
              refine ⟨_, fun _ _ => rfl, hK _ ?_⟩
              clear hK K
              refine wpQuiet_step (fun K hK => ?_)
              rw [if_pos (by rfl)]
              refine ⟨.string xb, fun w' hw' => ?_, hK _ ?_⟩
              · have c1 := (hw'.cell (p := ⟨b2, o2 + j, none⟩) HLB.out).trans HD2.out
                go_simp
              clear hK K
              refine wpQuiet_step (fun K hK => ?_)
              rw [if_pos (by rfl)]
              refine ⟨.bool false, fun w' hw' => ?_, hK _ ?_⟩
              · go_simp
                refine (HI1.out w' hw').mono ?_
                rintro r wn ⟨rfl, hbn⟩
                exact ⟨rfl, hw'.trans (hbn.mono hw'.size)⟩
              clear hK K
              refine wpQuiet_step (fun K hK => ?_)
              go_simp
              refine ⟨_, fun _ _ => rfl, hK _ ?_⟩
              clear hK K
              refine wpQuiet_step (fun K hK => ?_)
              go_simp
              refine ⟨_, fun _ _ => rfl, hK _ ?_⟩
              clear hK K
              refine wpQuiet_step (fun K hK => ?_)
              go_simp
              refine ⟨_, fun _ _ => rfl, hK _ ?_⟩
              clear hK K
              refine wpQuiet_step (fun K hK => ?_)
              go_simp
              refine ⟨_, fun _ _ => rfl, hK _ ?_⟩
              clear hK K
              refine wpQuiet_step (fun K hK => ?_)
              rw [if_pos (by rfl)]
              refine ⟨.string xb, fun w' hw' => ?_, hK _ ?_⟩
              · have c1 := (hw'.cell (p := ⟨b2, o2 + j, none⟩) HLB.out).trans HD2.out
                go_simp
              clear hK K
              refine wpQuiet_step (fun K hK => ?_)
              rw [if_pos (by rfl)]
              refine ⟨.bool false, fun w' hw' => ?_, hK _ ?_⟩
              · go_simp
                refine (HI2.out w' hw').mono ?_
                rintro r wn ⟨rfl, hbn⟩
                exact ⟨rfl, hw'.trans (hbn.mono hw'.size)⟩
              clear hK K
              refine wpQuiet_step (fun K hK => ?_)
              go_simp
              refine ⟨_, fun _ _ => rfl, hK _ ?_⟩
              clear hK K
              refine wpQuiet_step (fun K hK => ?_)
              go_simp
              refine ⟨_, fun _ _ => rfl, hK _ ?_⟩
              clear hK K
              refine wpQuiet_step (fun K hK => ?_)
              go_simp
              refine ⟨_, fun _ _ => rfl, hK _ ?_⟩
              clear hK K
              refine wpQuiet_step (fun K hK => ?_)
              go_simp
              refine ⟨_, fun _ _ => rfl, hK _ ?_⟩
              clear hK K
              refine wpQuiet_step (fun K hK => ?_)
              go_simp
              refine ⟨_, fun _ _ => rfl, hK _ ?_⟩
              clear hK K
              refine wpQuiet_step (fun K hK => ?_)
              go_simp
              refine ⟨_, fun _ _ => rfl, hK _ ?_⟩
              clear hK K
              refine wpQuiet_step (fun K hK => ?_)
              rw [if_pos (by rfl)]
              refine ⟨.string xb, fun w' hw' => ?_, hK _ ?_⟩
              · have c1 := (hw'.cell (p := ⟨b2, o2 + j, none⟩) HLB.out).trans HD2.out
                go_simp
              clear hK K
              refine wpQuiet_step (fun K hK => ?_)
              rw [if_pos (by rfl)]
              refine ⟨.bool false, fun w' hw' => ?_, hK _ ?_⟩
              · go_simp
                refine (HI3.out w' hw').mono ?_
                rintro r wn ⟨rfl, hbn⟩
                exact ⟨rfl, hw'.trans (hbn.mono hw'.size)⟩
              clear hK K
              refine wpQuiet_step (fun K hK => ?_)
              go_simp
              refine ⟨_, fun _ _ => rfl, hK _ ?_⟩
              clear hK K
              refine wpQuiet_step (fun K hK => ?_)
              go_simp
              refine ⟨_, fun _ _ => rfl, hK _ ?_⟩
              clear hK K
              refine wpQuiet_step (fun K hK => ?_)
              go_simp
              refine ⟨_, fun _ _ => rfl, hK _ ?_⟩
              clear hK K
              refine wpQuiet_step (fun K hK => ?_)
              go_simp
              refine ⟨_, fun _ _ => rfl, hK _ ?_⟩
              clear hK K
              refine wpQuiet_step (fun K hK => ?_)
              rw [if_pos (by rfl)]
              refine ⟨.string xb, fun w' hw' => ?_, hK _ ?_⟩
              · have c1 := (hw'.cell (p := ⟨b2, o2 + j, none⟩) HLB.out).trans HD2.out
                go_simp
              clear hK K
              refine wpQuiet_step (fun K hK => ?_)
              rw [if_pos (by rfl)]
              refine ⟨.bool false, fun w' hw' => ?_, hK _ ?_⟩
              · go_simp
                refine (HI4.out w' hw').mono ?_
                rintro r wn ⟨rfl, hbn⟩
                exact ⟨rfl, hw'.trans (hbn.mono hw'.size)⟩
              clear hK K
              refine wpQuiet_step (fun K hK => ?_)
              go_simp
              refine ⟨_, fun _ _ => rfl, hK _ ?_⟩
              clear hK K
              refine wpQuiet_step (fun K hK => ?_)
              go_simp
              refine ⟨_, fun _ _ => rfl, hK _ ?_⟩
              clear hK K
              refine wpQuiet_nil ?_
              intro w4 hw4
              have HB4 := hid hw4
              clear hw4
              go_wp2
              exact ⟨⟨j + 1, by omega, by push_cast; rfl, HB4⟩, by simp [intOf]; omega⟩
        · have h30i : ¬ (j : Int) < 30 := by omega
          go_wp2_with fail
          refine (works_st HSJ.out).mono ?_
          rintro e w4 ⟨rfl, hb4⟩
          go_wp2
          go_ret
          exact ⟨rfl, hb4⟩
      · have hlti : ¬ (j : Int) < (T : Int) := by omega
        go_wp2_with fail
        refine (works_st HSJ.out).mono ?_
        rintro e w4 ⟨rfl, hb4⟩
        go_wp2
        go_ret
        exact ⟨rfl, hb4⟩

theorem own : ownKnob Tryz.prog.godebug = none := by kernel_rfl

set_option maxRecDepth 100000 in
theorem contract (H : Type) (enc : TypeId × Value → H) (W : World) (base : Nat) (args : Array Value) (ds gs : List (DataW H)) (before : List MemPlace)
    (hval : ∀ (j : Nat) t v, Tryz.f3.params[j]? = some t → args[j]? = some v → Value.okWide Tryz.prog W .any base t v)
    (hW : DataW.Whole enc Tryz.prog Tryz.f3.params.toList Rows.globRulesSpec.vars false W args.toList ds gs before)
    (hk : Rows.uptoSmall H (ds ++ gs) = true)
    (hL : laidMetH Tryz.prog Rows.globRulesUptoRow.laid W)
    (hSh : W.ShapedOpen Tryz.prog)
    : Calls Tryz.prog 3 args W fun e W' => ∃ v, e = .returned v ∧ Rows.globRulesSpec.post enc Tryz.prog Tryz.f3 false true false false W args v W' := by
  have hW' := hW
  obtain ⟨p, q, hA0, hV, rfl, hfz, hnd⟩ := hW
  have hA : DataW.TrodAll enc Tryz.prog W 0 (fun _ => true) true Tryz.f3.params.toList args.toList ds p := hA0
  rw [Tryz.params3] at hA hval
  obtain ⟨v0, vs0, d0, ds0, p0, q0, hargs0, rfl, rfl, h0, r0⟩ := trodAll_cons hA
  obtain ⟨v1, vs1, d1, ds1, p1, q1, hargs1, rfl, rfl, h1, r1⟩ := trodAll_cons r0
  obtain ⟨rfl, rfl, rfl⟩ := trodAll_nil r1
  obtain rfl : args = #[v0, v1] := by cases args; simp_all
  obtain ⟨rfl, rfl⟩ := trodVars_none hV
  obtain ⟨x0, rfl, rfl, rfl, hmax0⟩ := open_string Tryz.underlying9 (hval 0 9 v0 rfl rfl) h0
  obtain ⟨x1, hr1, hsz1, hd1, hsh1⟩ := open_rd (okWide_slice Tryz.underlying22 (hval 1 22 v1 rfl rfl)) h1
  clear hA0
  simp only [List.append_nil] at hW' hk
  have hk' : Rows.uptoBulkAll (H := H) [DataW.lit (.string x0.data.toList), d1] ≤ 1048576 := of_decide_eq_true hk
  simp only [Rows.uptoBulkAll, Rows.uptoBulk] at hk'
  have hls0 : x0.data.toList.length = x0.size := size_data x0
  have hbk1 := rd_bulk hd1
  have hlt1 : ∀ x ∈ p1, x.block < W.heap.size := fun x hx => by simpa using hW'.lt x (by simp [hx])
  refine (walk x0 v1 x1 W (by omega) hr1 (by omega) hsh1 ⟨handle_of hL, max_of hSh⟩).mono fun e W' ⟨he, hb⟩ => ?_
  subst he
  exact ⟨_, rfl, _, _, _, [], ([] ++ (p1 ++ [])), [], hW', trodAll_cons_mk (shut_bool Tryz.underlying4 _) trodAll_mk0, trodAll_cons_mk (shut_string Tryz.underlying9 hmax0) (trodAll_cons_mk (Below.trod laidOut (by kernel_rfl) (of_decide_eq_true (by kernel_rfl)) h1 hb hlt1) trodAll_mk0), rfl, hb.frame _, fun h => by cases h⟩

set_option maxRecDepth 100000 in
theorem lifted (os : Os) (started : os.Started) (H : Type) (enc : TypeId × Value → H) (F : Stop.Interp) :
    ReturnsInHanded {} Tryz.checked os 3 .any ((Rows.OpenSpec.upto Rows.globRulesSpec).preRow enc Tryz.prog Tryz.f3 Rows.globRulesUptoRow.domain false Rows.globRulesUptoRow.laid) (((Rows.OpenSpec.upto Rows.globRulesSpec).at F).post enc Tryz.prog Tryz.f3 false true false false) := by
  refine returnsInHanded_of_row (C := Tryz.checked) (s := Rows.OpenSpec.upto Rows.globRulesSpec) own started (by kernel_rfl) Tryz.func3
    (witness_row_at (enc := enc) (C := Tryz.checked) false
      { World.holding Tryz.prog os ⟨#[], #[], []⟩ with heap := ((((World.holding Tryz.prog os ⟨#[], #[], []⟩).heap.modify 0 fun
          | .cells _ t frozen => .cells #[.iface 135 (.agg #[.pointer (some ⟨4, 25, none⟩)])] t frozen
          | o => o).modify 2 fun
          | .cells _ t frozen => .cells firstCells t frozen
          | o => o).modify 3 fun
          | .cells _ t frozen => .cells rangeCells t frozen
          | o => o) }
      #[.string .empty, .slice none 0 0] rfl (by kernel_rfl) (by kernel_rfl) (by kernel_rfl)
      (OpenSpec.preRow_of_cond 8 (x := ([.lit (.string []), .nil], [], [])) (by kernel_rfl) (by kernel_rfl) (fun k hk => by cases hk; kernel_rfl) (by kernel_rfl) (laidMetH_of_parts (laidMet_of_run' 300 (by kernel_rfl) (by kernel_rfl)) (by kernel_rfl)))) ?_
  intro W base args ds gs before hval hW _ hcond hsz hL hSh _
  exact contract H enc W base args ds gs before hval hW (hcond _ rfl) hL hSh

theorem said : Rows.GlobRulesUptoSaid :=
  OpenClaim.holds_of_cond 3 Tryz.f3 rfl rfl rfl rfl rfl rfl rfl ⟨rfl, rfl, rfl, rfl, rfl⟩ rfl rfl rfl rfl rfl (by kernel_rfl) Tryz.func3 (by kernel_rfl)
    (of_decide_eq_true (by kernel_rfl)) (by unfold Func.isWrapper; first | (rw [if_pos (by decide +kernel)]; kernel_rfl) | (rw [if_neg (by decide +kernel)]; exact ⟨rfl, rfl⟩))
    (fun os started H enc _ F => by rw [OpenClaim.pre_eq_preRow]; exact lifted os started H enc F)

theorem plain (f : FuncId) (fn : Func) (hf : Tryz.pinned.checked.prog.funcNamed Rows.globRulesUptoRow.func = some f) (hfn : Tryz.pinned.checked.prog.funcs[f]? = some fn) :
    true = Tryz.pinned.checked.prog.looks [] ∧ ∀ (j : Nat) t, fn.params[j]? = some t → Tryz.pinned.checked.prog.wantsStandIn t = false := by
  obtain rfl : f = 3 := Option.some.inj ((show Tryz.prog.funcNamed Rows.globRulesUptoRow.func = some 3 by kernel_rfl).symm.trans hf) |>.symm
  obtain rfl : fn = Tryz.f3 := (Option.some.inj (Tryz.func3.symm.trans hfn)).symm
  refine ⟨by kernel_rfl, fun j t ht => ?_⟩
  rw [Tryz.params3] at ht
  have hm : t = 9 ∨ t = 22 := by simpa using Array.mem_of_getElem? ht
  rcases hm with rfl | rfl
  · exact (show Tryz.prog.wantsStandIn 9 = false by kernel_rfl)
  · exact (show Tryz.prog.wantsStandIn 22 = false by kernel_rfl)

theorem card : Rows.GlobRulesUptoCardSaid :=
  Claim7.holds_tied_plain_at .later [] _ _ _ _ said (fun _ h => by cases h) (by kernel_rfl) (fun _ h => by cases h) globRulesUpto_row_tie rfl ⟨rfl, rfl⟩ (by kernel_rfl) rfl plain (by kernel_rfl)
end Go.Proofs.YtfjhjhjdneihbaaGreatDoor.globRules
