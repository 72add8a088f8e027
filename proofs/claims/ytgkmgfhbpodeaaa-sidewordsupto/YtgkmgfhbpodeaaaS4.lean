/-
  The walk of the document's Words.
-/
import Derived.Test.YtgkmgfhbpodeaaaS3
namespace Go.Proofs.Ytgkmgfhbpodeaaa
open Go.RowKit

/-- no piece ends behind the first so many, within the next -/
def NCf (l : Sd.Bs) (fr k : Nat) : Prop := ∀ j x y, fr ≤ j → j + 1 < k → l[j]? = some x → l[j + 1]? = some y → Sd.cut x y = false
theorem ncf_one (l : Sd.Bs) (fr : Nat) : NCf l fr (fr + 1) := fun j x y h1 h2 => by omega
theorem ncf_more {l : Sd.Bs} {fr k : Nat} {x y : UInt8} (h : NCf l fr k) (hk : 0 < k) (hx : l[k - 1]? = some x) (hy : l[k]? = some y) (hc : Sd.cut x y = false) : NCf l fr (k + 1) := by
  intro j a b hf hj ha hb
  by_cases e : j + 1 < k
  · exact h j a b hf e ha hb
  · have e2 : j = k - 1 := by omega
    subst e2
    rw [show k - 1 + 1 = k by omega] at hb
    rw [hx] at ha
    rw [hy] at hb
    cases ha; cases hb
    exact hc
theorem ext_data (s : ByteArray) (x y : Nat) : (s.extract x y).data.toList = (s.data.toList.drop x).take (y - x) := by rw [ext_bB, bB_data]
theorem ext_end (s : ByteArray) (x : Nat) : (s.extract x s.size).data.toList = s.data.toList.drop x := by
  rw [ext_data, List.take_of_length_le (by rw [List.length_drop, dsize]; omega)]
theorem wdB_step {s : ByteArray} {fr k : Nat} (hfr : fr < k) (hk : k ≤ s.size) (hn : NCf s.data.toList fr k) (he : k = s.size ∨ ∃ x y, s.data.toList[k - 1]? = some x ∧ s.data.toList[k]? = some y ∧ Sd.cut x y = true) :
    wdB (s.extract fr s.size) = s.extract fr k :: wdB (s.extract k s.size) := by
  have hsz : (s.extract fr s.size).size = s.size - fr := by rw [← dsize, ext_end, List.length_drop, dsize]
  have hf : Sd.fl (s.extract fr s.size).data.toList = k - fr := by
    rw [ext_end]
    refine fl_at (by omega) (by rw [List.length_drop, dsize]; omega) (fun j x y hj hx hy => ?_) ?_
    · rw [List.getElem?_drop] at hx hy
      exact hn (fr + j) x y (by omega) (by omega) hx hy
    · rcases he with he | ⟨x, y, hx, hy, hc⟩
      · exact .inl (by rw [List.length_drop, dsize]; omega)
      · refine .inr ⟨x, y, ?_, ?_, hc⟩
        · rw [List.getElem?_drop, show fr + (k - fr - 1) = k - 1 by omega]; exact hx
        · rw [List.getElem?_drop, show fr + (k - fr) = k by omega]; exact hy
  rw [wdB_cons (by omega), hf]
  congr 1
  · apply ba_ext
    rw [ext_data, ext_end, ext_data]
    simp
  · congr 1
    apply ba_ext
    rw [ext_data, ext_end, ext_end, hsz, List.drop_drop, show fr + (k - fr) = k by omega, List.take_of_length_le (by rw [List.length_drop, dsize]; omega)]
theorem cl_cut {x y : UInt8} {b : Bool} (h : Sd.cut x y = b) : ((Sd.clN y.toNat != Sd.clN x.toNat) || (Sd.clN y.toNat == 0)) = b := by
  rw [← h, Sd.cut_cl]; rfl

set_option maxHeartbeats 4000000 in
theorem refWords_any (s : ByteArray) (w : World) (hs : s.size ≤ 1099511627776) :
    Calls Try.prog 6 #[.string s] w fun e w' => ∃ v, e = .returned v ∧ OwnT w' w.heap.size v (wdB s) ∧ Below w.heap.size w w' := by
  go_enter Try.func6, Try.ntmps6
  go_wp2
  go_loopw [3, 4, 5] (fun v f i wr => ∃ (k fr : Nat) (P : List ByteArray), i = .int .i64 k ∧ f = .int .i64 fr ∧ fr < k ∧ k ≤ s.size + 1 ∧ fr ≤ s.size ∧ P.length ≤ fr ∧ Hid (k = s.size + 1 → fr = s.size) ∧ Hid (OwnT wr w.heap.size v P) ∧ Hid (wdB s = P ++ wdB (s.extract fr s.size)) ∧ Hid (NCf s.data.toList fr k) ∧ Hid (Below w.heap.size w wr)) (fun _ _ i _ => s.size + 1 - (intOf i).toNat)
  case atStart => exact ⟨1, 0, [], rfl, rfl, by omega, by omega, by omega, Nat.le_refl _, hid (by omega), hid (World.ownsRow_nil _ _ _ _), hid (by rw [show s.extract 0 s.size = s from ba_ext (by rw [ext_end]; rfl)]; rfl), hid (ncf_one _ _), hid (Below.refl _ _)⟩
  case round =>
    obtain ⟨k, fr, P, rfl, rfl, hfk, hk, hfs, hP, HE, HO, HW, HN, HB⟩ := hrel
    by_cases hlt : k ≤ s.size
    · have HOd : Hid (∀ m, OwnT (wr.drewN m) w.heap.size _ P) := hid fun m => own_stays HO.out (below_drewN (Below.refl _ _) m)
      have HBd : Hid (∀ m, Below w.heap.size w (wr.drewN m)) := hid fun m => below_drewN HB.out m
      by_cases heq : k = s.size
      · have q1 : ((k : Int) == (s.size : Int)) = true := ieq (by omega)
        have HS := hid (wdB_step hfk hlt HN.out (.inl heq))
        have HQ := hid heq
        clear heq
        go_wp2
        go_quiet (fail)
        have HOq := hid (HOd.out nq)
        have HBq := hid (HBd.out nq)
        generalize wr.drewN nq = wq at HOq HBq ⊢
        clear HOd HBd HO HB
        have HBE : Hid (Below wq.heap.size wq (wq.alloc (.cells #[.string (s.extract fr k)] 9))) := hid ((Below.refl _ _).alloc (Nat.le_refl _) _)
        go_wp2_with (at_builtin; refine wpList_append_st rfl _ _ rfl w.heap.size _ P rfl (own_stays HOq.out HBE.out) wq.heap.size (s.extract fr k) rfl (heap_alloc_new wq _) (by omega) (Nat.le_trans HBq.out.size HBE.out.size) ?_; intro v3 w3 hO3 _ _ hb3; have HO3 := hid hO3; have HB3 := hid ((HBq.out.trans (HBE.out.mono HBq.out.size)).trans hb3); clear hO3 hb3)
        go_roundw
        case rel => exact ⟨k + 1, k, _, by go_num, by go_num, by omega, by omega, by omega, by simp; omega, hid (by omega), HO3, hid (by rw [HW.out, HS.out]; simp), hid (ncf_one _ _), HB3⟩
        case measure => simp [intOf]; omega
      · obtain ⟨j, hjk⟩ : ∃ j, k = j + 1 := ⟨k - 1, by omega⟩
        have hj : k < s.size := by omega
        have hj0 : j < s.size := by omega
        have q1 : ((k : Int) == (s.size : Int)) = false := ine (by omega)
        have i1 : (0 : Int) ≤ (k : Int) := by omega
        have i2 : (k : Int) < (s.size : Int) := by omega
        have i3 : IntKind.i64.wrap ((k : Int) - 1) = (j : Int) := by rw [IntKind.wrap_i64]; omega
        have i4 : (0 : Int) ≤ (j : Int) := by omega
        have i5 : (j : Int) < (s.size : Int) := by omega
        have HX : Hid (s.data.toList[k - 1]? = some s[j]) := hid (by rw [hjk]; exact get_data hj0)
        clear hjk heq
        have HY := hid (get_data hj)
        by_cases h1 : Sd.clN s[k].toNat = Sd.clN s[j].toNat
        · have q2 : (((Sd.clN s[k].toNat : Nat) : Int) != ((Sd.clN s[j].toNat : Nat) : Int)) = false := by rw [h1]; simp
          by_cases h2 : Sd.clN s[k].toNat = 0
          · have q3 : (((Sd.clN s[k].toNat : Nat) : Int) == 0) = true := ieq (m := 0) (by omega)
            have HS := hid (wdB_step hfk hlt HN.out (.inr ⟨_, _, HX.out, HY.out, by rw [Sd.cut_cl]; unfold Sd.cl; rw [h2]; simp⟩))
            clear h1 h2
            go_wp2
            go_quiet ((go_at_call 9; exact Calls.quiet_of_same (class_any _ _)))
            have HOq := hid (HOd.out nq)
            have HBq := hid (HBd.out nq)
            generalize wr.drewN nq = wq at HOq HBq ⊢
            clear HOd HBd HO HB
            have HBE : Hid (Below wq.heap.size wq (wq.alloc (.cells #[.string (s.extract fr k)] 9))) := hid ((Below.refl _ _).alloc (Nat.le_refl _) _)
            go_wp2_with (at_builtin; refine wpList_append_st rfl _ _ rfl w.heap.size _ P rfl (own_stays HOq.out HBE.out) wq.heap.size (s.extract fr k) rfl (heap_alloc_new wq _) (by omega) (Nat.le_trans HBq.out.size HBE.out.size) ?_; intro v3 w3 hO3 _ _ hb3; have HO3 := hid hO3; have HB3 := hid ((HBq.out.trans (HBE.out.mono HBq.out.size)).trans hb3); clear hO3 hb3)
            go_roundw
            case rel => exact ⟨k + 1, k, _, by go_num, by go_num, by omega, by omega, by omega, by simp; omega, hid (by omega), HO3, hid (by rw [HW.out, HS.out]; simp), hid (ncf_one _ _), HB3⟩
            case measure => simp [intOf]; omega
          · have q3 : (((Sd.clN s[k].toNat : Nat) : Int) == 0) = false := ine (m := 0) (by omega)
            have HN2 := hid (ncf_more HN.out (by omega) HX.out HY.out (by rw [Sd.cut_cl]; unfold Sd.cl; rw [h1] at h2 ⊢; simp [h2]))
            clear h1 h2
            go_wp2
            go_quiet ((go_at_call 9; exact Calls.quiet_of_same (class_any _ _)))
            have HOq := hid (HOd.out nq)
            have HBq := hid (HBd.out nq)
            generalize wr.drewN nq = wq at HOq HBq ⊢
            clear HOd HBd HO HB
            go_wp2
            go_roundw
            case rel => exact ⟨k + 1, fr, P, by go_num, rfl, by omega, by omega, by omega, hP, hid (by omega), HOq, HW, HN2, HBq⟩
            case measure => simp [intOf]; omega
        · have q2 : (((Sd.clN s[k].toNat : Nat) : Int) != ((Sd.clN s[j].toNat : Nat) : Int)) = true := bne_iff_ne.2 (by omega)
          have HS := hid (wdB_step hfk hlt HN.out (.inr ⟨_, _, HX.out, HY.out, by rw [Sd.cut_cl]; unfold Sd.cl; rw [bne_iff_ne.2 h1]; rfl⟩))
          clear h1
          go_wp2
          go_quiet ((go_at_call 9; exact Calls.quiet_of_same (class_any _ _)))
          have HOq := hid (HOd.out nq)
          have HBq := hid (HBd.out nq)
          generalize wr.drewN nq = wq at HOq HBq ⊢
          clear HOd HBd HO HB
          have HBE : Hid (Below wq.heap.size wq (wq.alloc (.cells #[.string (s.extract fr k)] 9))) := hid ((Below.refl _ _).alloc (Nat.le_refl _) _)
          go_wp2_with (at_builtin; refine wpList_append_st rfl _ _ rfl w.heap.size _ P rfl (own_stays HOq.out HBE.out) wq.heap.size (s.extract fr k) rfl (heap_alloc_new wq _) (by omega) (Nat.le_trans HBq.out.size HBE.out.size) ?_; intro v3 w3 hO3 _ _ hb3; have HO3 := hid hO3; have HB3 := hid ((HBq.out.trans (HBE.out.mono HBq.out.size)).trans hb3); clear hO3 hb3)
          go_roundw
          case rel => exact ⟨k + 1, k, _, by go_num, by go_num, by omega, by omega, by omega, by simp; omega, hid (by omega), HO3, hid (by rw [HW.out, HS.out]; simp), hid (ncf_one _ _), HB3⟩
          case measure => simp [intOf]; omega
    · have hke : fr = s.size := HE.out (by omega)
      have HF : Hid (wdB s = P) := hid (by rw [HW.out, hke, wdB_nil (by rw [← dsize, ext_end, List.length_drop, dsize]; omega), List.append_nil])
      clear hke
      go_wp2
      go_ret
      exact ⟨_, rfl, by rw [HF.out]; exact HO.out, HB.out⟩
end Go.Proofs.Ytgkmgfhbpodeaaa
