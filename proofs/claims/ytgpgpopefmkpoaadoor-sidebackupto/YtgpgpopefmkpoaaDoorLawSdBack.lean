/-
  PROVED: the card of SideBack: for every Case SideBack returns true, and it reads afterwards as it read before; the condition: what it holds is at most 1048576 in bulk; the card ties what errors.errorType holds to the program's text (a pruned copy of the project: the packages that this law loads).
-/
import Derived.Test.YtgpgpopefmkpoaaDoorSf
import Derived.Test.YtgpgpopefmkpoaaDoorSe
import Derived.Test.YtgpgpopefmkpoaaDoorHandle
namespace Go.Proofs.YtgpgpopefmkpoaaDoor.sideBack
open Go.ChangeShapes Go.WideShapes Go.ChangeAt Go.RowKit
open Go.ChangeMaps (open_string shut_string)
open Ed (Ch Run Pr)

theorem flat_mem {L : List ByteArray} {x : ByteArray} (h : x ∈ L) : x.size ≤ (flatB L).length := by
  obtain ⟨a, b, rfl⟩ := List.append_of_mem h
  rw [flat_app, List.length_append]
  have e : flatB (x :: b) = x.data.toList ++ flatB b := rfl
  rw [e, List.length_append, dsize]
  omega
theorem part_oneS {L : List ByteArray} {k : Nat} {x : ByteArray} (h : L[k]? = some x) : part L k k.succ = [x] := by
  obtain ⟨h1, h2⟩ := List.getElem?_eq_some_iff.1 h
  unfold part
  rw [List.drop_eq_getElem_cons h1, h2, show k.succ - k = 1 by omega]
  rfl
theorem com_end {A B : List ByteArray} {s : List Ch} {i k N : Nat} (h : N = s.length) : com A B (s.drop N) i k = (part A i A.length = part B k B.length) := by
  rw [List.drop_eq_nil_of_le (by omega)]; rfl
theorem com_at {A B : List ByteArray} {s : List Ch} {i k j : Nat} {c : Ch} (h : s[j]? = some c) : com A B (s.drop j) i k = (part A i c.a.toNat = part B k c.b.toNat ∧ com A B (s.drop (j + 1)) (c.a + c.n).toNat (c.b + c.m).toNat) := by
  obtain ⟨h1, h2⟩ := List.getElem?_eq_some_iff.1 h
  rw [List.drop_eq_getElem_cons h1, h2]; rfl

set_option maxHeartbeats 32000000 in
set_option maxRecDepth 100000 in
theorem walk (v : Value) (s : List Ch) (va : Value) (A : List ByteArray) (vb : Value) (Bl : List ByteArray) (x3 : Int) (w : World) (hr : RdC w v s) (hwf : ∀ c ∈ s, WfC c) (hl : s.length ≤ 1048576) (_hsh : ArgS v)
    (hra : RdT w va A) (_ : ∀ c ∈ A, SzS c) (hfa : A.length + (flatB A).length ≤ 1048576) (_ : ArgS va)
    (hrb : RdT w vb Bl) (_ : ∀ c ∈ Bl, SzS c) (hfb : Bl.length + (flatB Bl).length ≤ 1048576) (_ : ArgS vb) (hg : ErrVar w) :
    Calls Tryd.prog 7 #[.agg #[v, va, vb, .int .i64 x3]] w fun e w' => e = .returned (.bool true) ∧ Below w.heap.size w w' := by
  have HG := hid hg
  have HI := hid (fun w1 (hb : Below w.heap.size w w1) => inline_all (RdX.below hr hb) hwf (by omega) (RdX.below hra hb) (RdX.below hrb hb) (fun h => inl_small h (by omega) (by omega)))
  have HNm := hid (fun w1 (hb : Below w.heap.size w w1) => refNormal_all (n := A.length) (m := Bl.length) (RdX.below hr hb) hwf (by omega))
  have HA := hid (fun w1 (hb : Below w.heap.size w w1) => RdX.below hra hb)
  have HBl := hid (fun w1 (hb : Below w.heap.size w w1) => RdX.below hrb hb)
  have HSa : Hid (∀ x ∈ A, x.size ≤ 1048576) := hid (fun x hx => by have := flat_mem hx; omega)
  have HSb : Hid (∀ x ∈ Bl, x.size ≤ 1048576) := hid (fun x hx => by have := flat_mem hx; omega)
  have HFa : Hid ((flatB A).length ≤ 1048576) := hid (by omega)
  have HFb : Hid ((flatB Bl).length ≤ 1048576) := hid (by omega)
  have HK : Hid (Ed.validN s A.length Bl.length = 0 → Ed.val (nrmA s A.length Bl.length) 0 0 A.length Bl.length = true ∧ inlS s A Bl = bB (inlP A Bl (nrmA s A.length Bl.length) 0) ∧ (nrmA s A.length Bl.length).length ≤ 8388608 ∧ (inlP A Bl (nrmA s A.length Bl.length) 0).length ≤ 35184372088832) := hid (fun h0 => by
    have e : nrmA s A.length Bl.length = Ed.normal s A.length Bl.length := by unfold nrmA; rw [if_pos h0]
    have hNV := (Ed.normal_Val (Ed.validN_zero.1 h0)).1
    have hz := inl_small (s := s) (A := A) (B := Bl) h0 (by omega) (by omega)
    rw [e]
    exact ⟨hNV.2.2, by unfold inlS; rw [if_pos h0], Val_len hNV, by omega⟩)
  obtain ⟨a0, c0, rfl⟩ := hr.shape
  obtain ⟨aa, ca, rfl⟩ := hra.shape
  obtain ⟨ab, cb, rfl⟩ := hrb.shape
  obtain ⟨n, hn⟩ : ∃ n, n = A.length := ⟨_, rfl⟩
  obtain ⟨m, hm⟩ : ∃ m, m = Bl.length := ⟨_, rfl⟩
  have HNa := hid hn
  have HNb := hid hm
  have hn20 : n ≤ 1048576 := by omega
  have hm20 : m ≤ 1048576 := by omega
  have HA : Hid (∀ w1, Below w.heap.size w w1 → RdT w1 (.slice aa n ca) A) := hid (fun w1 hb => by have := HA.out w1 hb; rw [hn]; exact this)
  have HBl : Hid (∀ w1, Below w.heap.size w w1 → RdT w1 (.slice ab m cb) Bl) := hid (fun w1 hb => by have := HBl.out w1 hb; rw [hm]; exact this)
  rw [← hn] at HI HNm HK ⊢
  rw [← hm] at HI HNm HK ⊢
  generalize s.length = ls at HI HNm ⊢
  generalize nrmA s n m = S at HNm HK
  generalize Ed.validN s n m = K at HI HNm HK
  generalize inlS s A Bl = Z at HI HK
  clear hr hwf hl hra hfa hrb hfb hg hn hm
  go_enter Tryd.func7, Tryd.ntmps7
  go_wp2
  obtain ⟨w1, hw1⟩ : ∃ w1, w1 = w.alloc (.cells #[.slice a0 ls c0, .slice aa n ca, .slice ab m cb, .int .i64 x3] 25) := ⟨_, rfl⟩
  rw [← hw1]
  obtain ⟨BX, hBX⟩ : ∃ BX, BX = w.heap.size := ⟨_, rfl⟩
  rw [← hBX]
  obtain ⟨G, hG⟩ : ∃ G, G = w1.heap.size := ⟨_, rfl⟩
  have HGG := hid hG
  have hb0 : Below w.heap.size w w1 := by rw [hw1]; exact (Below.refl _ _).alloc (Nat.le_refl _) _
  have hh : w1.heap[BX]? = some (.cells #[.slice a0 ls c0, .slice aa n ca, .slice ab m cb, .int .i64 x3] 25) := by rw [hw1, hBX]; exact heap_alloc_new w _
  have hBG : BX < G := by rw [hG]; exact lt_of_heap hh
  have HX : Hid (∀ w', Below G w1 w' → w'.cell? ⟨BX, 0, none⟩ = some (.slice a0 ls c0) ∧ w'.cell? ⟨BX, 1, none⟩ = some (.slice aa n ca) ∧ w'.cell? ⟨BX, 2, none⟩ = some (.slice ab m cb)) := hid (fun w' h => ⟨(h.cell (p := ⟨BX, 0, none⟩) hBG).trans (cell_of_blk hh 0), (h.cell (p := ⟨BX, 1, none⟩) hBG).trans (cell_of_blk hh 1), (h.cell (p := ⟨BX, 2, none⟩) hBG).trans (cell_of_blk hh 2)⟩)
  have HG1 : Hid (∀ w', Below G w1 w' → Below w.heap.size w w') := hid (fun w' h => hb0.trans (h.mono (by rw [hG]; exact hb0.size)))
  have HB0 : Hid (Below G w1 w1) := hid (Below.refl _ _)
  clear hw1 hb0 hh hG hBX
  go_loopw [3] (fun i wr => ∃ k : Nat, k ≤ n ∧ i = .int .i64 k ∧ Hid (∀ x ∈ A.take k, Free x.data.toList) ∧ Hid (Below G w1 wr)) (fun i _ => n - (intOf i).toNat)
  case atStart => exact ⟨0, Nat.zero_le _, rfl, hid (fun x hx => by simp at hx), HB0⟩
  case round =>
    obtain ⟨k, hk, rfl, HF, HB⟩ := hrel
    obtain ⟨u0, u1, u2⟩ := HX.out wr HB.out
    by_cases hlt : k < n
    · obtain ⟨x, hx⟩ : ∃ x, A[k]? = some x := ⟨_, List.getElem?_eq_getElem (by have := HNa.out; omega)⟩
      obtain ⟨b1, o1, e1, hb1, d1⟩ := rdT_at (HA.out wr (HG1.out _ HB.out)) hx
      have hsx := HSa.out x (List.mem_of_getElem? hx)
      subst e1
      have i1 : (0 : Int) ≤ (k : Int) := by omega
      have i2 : (k : Int) < (n : Int) := by omega
      have HXX := hid hx
      clear hx hb1
      go_wp2_with fail
      refine (marks_any x wr (by omega)).mono ?_
      rintro e w2 ⟨b, rfl, hfr, hw2⟩
      subst hw2
      cases b
      · have HF2 : Hid (∀ x ∈ A.take (k + 1), Free x.data.toList) := hid (by
          rw [List.take_add_one, HXX.out]
          intro y hy
          rcases List.mem_append.1 hy with hy | hy
          · exact HF.out y hy
          · simp at hy; subst hy; exact hfr rfl)
        clear hfr HF HXX
        go_wp2
        go_roundw
        case rel => exact ⟨k + 1, by omega, by go_num, HF2, HB⟩
        case measure => simp [intOf] <;> omega
      · clear hfr HF HXX
        go_wp2_with fail
        refine (wordy_any _).mono ?_
        rintro e wz ⟨rfl, hbz⟩
        have HBz := hid (HG1.out _ (HB.out.trans (hbz.mono (Nat.le_trans (Nat.le_of_eq HGG.out) HB.out.size))))
        clear hbz
        go_wp2_with fail
        go_ret
        exact ⟨rfl, HBz.out⟩
    · have HFrA : Hid (∀ x ∈ A, Free x.data.toList) := hid (by have := HF.out; rwa [List.take_of_length_le (by have := HNa.out; omega)] at this)
      clear HF
      have HB0 := HB
      clear HB
      go_wp2_with fail
      go_loopw [4] (fun i wr => ∃ k : Nat, k ≤ m ∧ i = .int .i64 k ∧ Hid (∀ x ∈ Bl.take k, Free x.data.toList) ∧ Hid (Below G w1 wr)) (fun i _ => m - (intOf i).toNat)
      case atStart => exact ⟨0, Nat.zero_le _, rfl, hid (fun x hx => by simp at hx), HB0⟩
      case round =>
        obtain ⟨k, hk, rfl, HF, HB⟩ := hrel
        obtain ⟨u0, u1, u2⟩ := HX.out wr HB.out
        by_cases hlt : k < m
        · obtain ⟨x, hx⟩ : ∃ x, Bl[k]? = some x := ⟨_, List.getElem?_eq_getElem (by have := HNb.out; omega)⟩
          obtain ⟨b1, o1, e1, hb1, d1⟩ := rdT_at (HBl.out wr (HG1.out _ HB.out)) hx
          have hsx := HSb.out x (List.mem_of_getElem? hx)
          subst e1
          have i1 : (0 : Int) ≤ (k : Int) := by omega
          have i2 : (k : Int) < (m : Int) := by omega
          have HXX := hid hx
          clear hx hb1
          go_wp2_with fail
          refine (marks_any x wr (by omega)).mono ?_
          rintro e w2 ⟨b, rfl, hfr, hw2⟩
          subst hw2
          cases b
          · have HF2 : Hid (∀ x ∈ Bl.take (k + 1), Free x.data.toList) := hid (by
              rw [List.take_add_one, HXX.out]
              intro y hy
              rcases List.mem_append.1 hy with hy | hy
              · exact HF.out y hy
              · simp at hy; subst hy; exact hfr rfl)
            clear hfr HF HXX
            go_wp2
            go_roundw
            case rel => exact ⟨k + 1, by omega, by go_num, HF2, HB⟩
            case measure => simp [intOf] <;> omega
          · clear hfr HF HXX
            go_wp2_with fail
            refine (wordy_any _).mono ?_
            rintro e wz ⟨rfl, hbz⟩
            have HBz := hid (HG1.out _ (HB.out.trans (hbz.mono (Nat.le_trans (Nat.le_of_eq HGG.out) HB.out.size))))
            clear hbz
            go_wp2_with fail
            go_ret
            exact ⟨rfl, HBz.out⟩
        · have HFrB : Hid (∀ x ∈ Bl, Free x.data.toList) := hid (by have := HF.out; rwa [List.take_of_length_le (by have := HNb.out; omega)] at this)
          clear HF
          have HB0 := HB
          clear HB
          go_wp2_with fail
          refine (HI.out _ (HG1.out _ HB0.out)).mono ?_
          rintro e w2 ⟨rfl, hb2⟩
          have HB2 := hid (HB0.out.trans (hb2.mono (by have h1 := HB0.out.size; have h2 := HGG.out; omega)))
          clear hb2 HB0 u0 u1 u2
          obtain ⟨u0, u1, u2⟩ := HX.out _ HB2.out
          go_wp2_with fail
          refine (HNm.out _ (HG1.out _ HB2.out)).mono ?_
          rintro e w4 ⟨v4, rfl, hO, hb4⟩
          obtain ⟨a4, c4, rfl⟩ := own_shape hO
          have HB4 := hid (HB2.out.trans (hb4.mono (by have h1 := HB2.out.size; have h2 := HGG.out; omega)))
          have hrd := own_rd hO
          obtain ⟨N, hN⟩ : ∃ N, N = S.length := ⟨_, rfl⟩
          have HNs := hid hN
          obtain ⟨G4, hG4⟩ : ∃ G4, G4 = w4.heap.size := ⟨_, rfl⟩
          have HG4 := hid hG4
          have HSr : Hid (∀ w', Below G4 w4 w' → RdC w' (.slice a4 N c4) S) := hid (fun w' h => by rw [hN]; exact RdX.below hrd (by rw [← hG4]; exact h))
          rw [← hN]
          clear hb4 HB2 u0 u1 u2 hO hrd hN hG4
          have HGe : Hid (∀ w', Below w4.heap.size w4 w' → ErrVar w') := hid (fun w' h => HG.out.below (HG1.out _ (HB4.out.trans (h.mono (by have h1 := HB4.out.size; have h2 := HGG.out; omega)))))
          by_cases hk0 : K = 0
          · obtain ⟨hv, hz, hNl, hTl⟩ := HK.out hk0
            subst hk0
            have he : errV 0 = .nilIface := errV_zero
            rw [he]
            have HV0 := hid hv
            have HZ := hid hz
            have HTl := hid hTl
            have hNb8 : N ≤ 8388608 := by have := HNs.out; omega
            have HT4 : Hid (∀ w', Below G4 w4 w' → Below G w1 w') := hid (fun w' h => HB4.out.trans (h.mono (by have h1 := HB4.out.size; have h2 := HGG.out; have h3 := HG4.out; omega)))
            clear hv hz hNl hTl he HK HGe
            go_wp2_with fail
            go_loopw [11, 12, 13] (fun kk i cc wr => ∃ c i0 k0 : Nat, c ≤ N + 1 ∧ cc = .int .i64 c ∧ i = .int .i64 i0 ∧ kk = .int .i64 k0 ∧ i0 ≤ n ∧ k0 ≤ m ∧ Hid (c ≤ N → Ed.val (S.drop c) i0 k0 n m = true ∧ (com A Bl (S.drop c) i0 k0 → com A Bl S 0 0)) ∧ Hid (c = N + 1 → com A Bl S 0 0) ∧ Hid (Below G4 w4 wr)) (fun _ _ cc _ => N + 1 - (intOf cc).toNat)
            case atStart => exact ⟨0, 0, 0, Nat.zero_le _, rfl, rfl, rfl, Nat.zero_le _, Nat.zero_le _, hid (fun _ => ⟨HV0.out, fun h => h⟩), hid (fun h => by omega), hid (Below.refl _ _)⟩
            case round =>
              obtain ⟨c, i0, k0, hc, rfl, rfl, rfl, hi0, hk0, HV, HC, HBc⟩ := hrel
              obtain ⟨u0, u1, u2⟩ := HX.out _ (HT4.out _ HBc.out)
              by_cases hcN : c ≤ N
              · have j0 : (c : Int) ≤ (N : Int) := by omega
                by_cases hlt : c < N
                · obtain ⟨x, hx⟩ : ∃ x, S[c]? = some x := ⟨_, List.getElem?_eq_getElem (by have := HNs.out; omega)⟩
                  obtain ⟨hok, hv2⟩ := val_at (HV.out hcN).1 hx
                  have hcm := com_at (A := A) (B := Bl) (i := i0) (k := k0) hx
                  obtain ⟨⟨p1, p2, p3⟩, ⟨p4, p5, p6⟩, _, p7⟩ := hok
                  obtain ⟨bc, oc, ec, hbc, d0, d1, d2, d3⟩ := rdC_at (HSr.out _ (Below.refl _ _)) hx
                  have hbcG : bc < G4 := by have := HG4.out; omega
                  have HD : Hid (∀ w', Below G4 w4 w' → w'.cell? ⟨bc, oc + c * 4, none⟩ = some (.int .i64 x.a) ∧ w'.cell? ⟨bc, oc + c * 4 + 1, none⟩ = some (.int .i64 x.n) ∧ w'.cell? ⟨bc, oc + c * 4 + 2, none⟩ = some (.int .i64 x.b) ∧ w'.cell? ⟨bc, oc + c * 4 + 3, none⟩ = some (.int .i64 x.m)) := hid (fun w' h => ⟨(h.cell (p := ⟨bc, _, none⟩) hbcG).trans d0, (h.cell (p := ⟨bc, _, none⟩) hbcG).trans d1, (h.cell (p := ⟨bc, _, none⟩) hbcG).trans d2, (h.cell (p := ⟨bc, _, none⟩) hbcG).trans d3⟩)
                  subst ec
                  obtain ⟨xa0, xn0, xb0, xm0⟩ := x
                  dsimp only at hcm HD p1 p2 p3 p4 p5 p6 p7 hv2
                  obtain ⟨xa, rfl⟩ := Int.eq_ofNat_of_zero_le (show 0 ≤ xa0 by omega)
                  obtain ⟨xn, rfl⟩ := Int.eq_ofNat_of_zero_le p2
                  obtain ⟨xb, rfl⟩ := Int.eq_ofNat_of_zero_le (show 0 ≤ xb0 by omega)
                  obtain ⟨xm, rfl⟩ := Int.eq_ofNat_of_zero_le p5
                  have ey : ((xa : Int) + (xn : Int)).toNat = xa + xn := by omega
                  have ez : ((xb : Int) + (xm : Int)).toNat = xb + xm := by omega
                  rw [ey, ez, Int.toNat_natCast, Int.toNat_natCast] at hcm
                  have hv3 : Ed.val (S.drop (c + 1)) ((xa + xn : Nat) : Int) ((xb + xm : Nat) : Int) n m = true := by rw [Int.natCast_add, Int.natCast_add]; exact hv2
                  have HV3 := hid hv3
                  have HCM := hid hcm
                  have HCO := hid (HV.out hcN).2
                  have g1 : i0 ≤ xa := by omega
                  have g2 : xa + xn ≤ n := by omega
                  have g3 : k0 ≤ xb := by omega
                  have g4 : xb + xm ≤ m := by omega
                  have g5 : xa - i0 = xb - k0 := by omega
                  have j1 : (0 : Int) ≤ (c : Int) := by omega
                  have j2 : (c : Int) < (N : Int) := by omega
                  obtain ⟨t0, t1, t2, t3⟩ := HD.out _ HBc.out
                  clear hx hcm d0 d1 d2 d3 p1 p2 p3 p4 p5 p6 p7 hv2 hv3 ey ez HV HC hbc
                  go_wp2_with fail
                  go_loopw [11, 12] (fun kk i wq => ∃ d : Nat, d ≤ xa - i0 ∧ i = .int .i64 (i0 + d : Nat) ∧ kk = .int .i64 (k0 + d : Nat) ∧ Hid (part A i0 (i0 + d) = part Bl k0 (k0 + d)) ∧ Hid (Below G4 w4 wq)) (fun _ i _ => xa - (intOf i).toNat)
                  case atStart => exact ⟨0, Nat.zero_le _, rfl, rfl, hid (by unfold part; simp), HBc⟩
                  case round =>
                    obtain ⟨d, hd, rfl, rfl, HE, HBq⟩ := hrel
                    obtain ⟨u0, u1, u2⟩ := HX.out _ (HT4.out _ HBq.out)
                    obtain ⟨p, hp⟩ : ∃ p, p = i0 + d := ⟨_, rfl⟩
                    obtain ⟨r, hr⟩ : ∃ r, r = k0 + d := ⟨_, rfl⟩
                    rw [← hp, ← hr] at HE ⊢
                    by_cases hgo : d < xa - i0
                    · obtain ⟨y, hy⟩ : ∃ y, A[p]? = some y := ⟨_, List.getElem?_eq_getElem (by have := HNa.out; omega)⟩
                      obtain ⟨z, hz⟩ : ∃ z, Bl[r]? = some z := ⟨_, List.getElem?_eq_getElem (by have := HNb.out; omega)⟩
                      obtain ⟨b1, o1, e1, hb1, d1⟩ := rdT_at (HA.out _ (HG1.out _ (HT4.out _ HBq.out))) hy
                      obtain ⟨b2, o2, e2, hb2, d2⟩ := rdT_at (HBl.out _ (HG1.out _ (HT4.out _ HBq.out))) hz
                      subst e1
                      subst e2
                      have i1 : (0 : Int) ≤ (p : Int) := by omega
                      have i2 : (p : Int) < (n : Int) := by omega
                      have i3 : (0 : Int) ≤ (r : Int) := by omega
                      have i4 : (r : Int) < (m : Int) := by omega
                      have i5 : (p : Int) < (xa : Int) := by omega
                      have HBd := hid (below_drewN HBq.out 1)
                      have HYY := hid hy
                      have HZZ := hid hz
                      have HPp := hid hp
                      have HPr := hid hr
                      clear hy hz hb1 hb2
                      by_cases hyz : y = z
                      · subst hyz
                        have s1 : (y.toList == y.toList) = true := beq_self_eq_true _
                        have HE2 : Hid (part A i0 (i0 + (d + 1)) = part Bl k0 (k0 + (d + 1))) := hid (by
                          rw [← Nat.add_assoc, ← Nat.add_assoc, ← hp, ← hr, ← part_two A (show i0 ≤ p by omega) (Nat.le_succ p), ← part_two Bl (show k0 ≤ r by omega) (Nat.le_succ r), HE.out, part_oneS HYY.out, part_oneS HZZ.out])
                        clear HE HYY HZZ hp hr
                        go_wp2_with fail
                        go_region_held3 (fun w' => w'.cell? ⟨BX, 1, none⟩ = some (.slice (some ⟨b1, o1, none⟩) n ca) ∧ w'.cell? ⟨BX, 2, none⟩ = some (.slice (some ⟨b2, o2, none⟩) m cb) ∧ w'.cell? ⟨b1, o1 + p, none⟩ = some (.string y) ∧ w'.cell? ⟨b2, o2 + r, none⟩ = some (.string y)) (go_keep) (fail)
                        go_wp2_with fail
                        go_roundw
                        case rel => exact ⟨d + 1, by omega, by rw [show i0 + (d + 1) = p + 1 by have := HPp.out; omega]; go_num, by rw [show k0 + (d + 1) = r + 1 by have := HPr.out; omega]; go_num, HE2, HBd⟩
                        case measure => simp [intOf] <;> omega
                      · have s1 : (y.toList == z.toList) = false := by
                          rw [beq_eq_false_iff_ne, ByteArray.toList_eq, ByteArray.toList_eq]
                          exact fun e => hyz (ba_ext e)
                        have HBe := hid (HT4.out _ HBd.out)
                        clear HE HYY HZZ hyz hp hr
                        go_wp2_with fail
                        go_region_held3 (fun w' => w'.cell? ⟨BX, 1, none⟩ = some (.slice (some ⟨b1, o1, none⟩) n ca) ∧ w'.cell? ⟨BX, 2, none⟩ = some (.slice (some ⟨b2, o2, none⟩) m cb) ∧ w'.cell? ⟨b1, o1 + p, none⟩ = some (.string y) ∧ w'.cell? ⟨b2, o2 + r, none⟩ = some (.string z)) (go_keep) (fail)
                        go_wp2_with fail
                        refine (wordy_any _).mono ?_
                        rintro e wz ⟨rfl, hbz⟩
                        have HBz := hid (HG1.out _ (HBe.out.trans (hbz.mono (Nat.le_trans (Nat.le_of_eq HGG.out) HBe.out.size))))
                        clear hbz
                        go_wp2_with fail
                        go_ret
                        exact ⟨rfl, HBz.out⟩
                    · have hde : d = xa - i0 := by omega
                      have i5 : ¬ (p : Int) < (xa : Int) := by omega
                      have HE2 : Hid (part A i0 xa = part Bl k0 xb) := hid (by have := HE.out; rwa [show p = xa by omega, show r = xb by omega] at this)
                      have hpx : p = xa := by omega
                      have hrx : r = xb := by omega
                      have HC2 : Hid (com A Bl (S.drop (c + 1)) (xa + xn) (xb + xm) → com A Bl S 0 0) := hid (fun h => HCO.out (by rw [HCM.out]; exact ⟨HE2.out, h⟩))
                      obtain ⟨t0, t1, t2, t3⟩ := HD.out _ HBq.out
                      have iw1 : IntKind.i64.wrap ((xa : Int) + (xn : Int)) = ((xa + xn : Nat) : Int) := by rw [IntKind.wrap_i64]; omega
                      have iw2 : IntKind.i64.wrap ((xb : Int) + (xm : Int)) = ((xb + xm : Nat) : Int) := by rw [IntKind.wrap_i64]; omega
                      have HBd := hid (below_drewN HBq.out 1)
                      clear HE HE2 HCM HCO
                      rw [hpx] at i5 ⊢
                      rw [hrx]
                      go_wp2_with fail
                      go_region_held3 (fun w' => w'.cell? ⟨bc, oc + c * 4, none⟩ = some (.int .i64 (xa : Int)) ∧ w'.cell? ⟨bc, oc + c * 4 + 1, none⟩ = some (.int .i64 (xn : Int)) ∧ w'.cell? ⟨bc, oc + c * 4 + 2, none⟩ = some (.int .i64 (xb : Int)) ∧ w'.cell? ⟨bc, oc + c * 4 + 3, none⟩ = some (.int .i64 (xm : Int))) (go_keep) (fail)
                      go_wp2_with fail
                      go_roundw
                      case rel => exact ⟨c + 1, xa + xn, xb + xm, by omega, by go_num, rfl, rfl, by omega, by omega, hid (fun _ => ⟨HV3.out, HC2.out⟩), hid (fun h => by omega), HBd⟩
                      case measure => simp [intOf] <;> omega
                · have hce : c = N := by omega
                  subst hce
                  have hcm := com_end (A := A) (B := Bl) (i := i0) (k := k0) HNs.out
                  have hv0 := (HV.out hcN).1
                  rw [List.drop_eq_nil_of_le (by have := HNs.out; omega)] at hv0
                  have g5 : n - i0 = m - k0 := by
                    have : ((n : Int) - (i0 : Int) = (m : Int) - (k0 : Int)) := of_decide_eq_true hv0
                    omega
                  have HCM := hid hcm
                  have HCO := hid (HV.out hcN).2
                  have j2 : ¬ (c : Int) < (c : Int) := by omega
                  clear hcm hv0 HV HC
                  go_wp2_with fail
                  go_loopw [11, 12] (fun kk i wq => ∃ d : Nat, d ≤ n - i0 ∧ i = .int .i64 (i0 + d : Nat) ∧ kk = .int .i64 (k0 + d : Nat) ∧ Hid (part A i0 (i0 + d) = part Bl k0 (k0 + d)) ∧ Hid (Below G4 w4 wq)) (fun _ i _ => n - (intOf i).toNat)
                  case atStart => exact ⟨0, Nat.zero_le _, rfl, rfl, hid (by unfold part; simp), HBc⟩
                  case round =>
                    obtain ⟨d, hd, rfl, rfl, HE, HBq⟩ := hrel
                    obtain ⟨u0, u1, u2⟩ := HX.out _ (HT4.out _ HBq.out)
                    obtain ⟨p, hp⟩ : ∃ p, p = i0 + d := ⟨_, rfl⟩
                    obtain ⟨r, hr⟩ : ∃ r, r = k0 + d := ⟨_, rfl⟩
                    rw [← hp, ← hr] at HE ⊢
                    by_cases hgo : d < n - i0
                    · obtain ⟨y, hy⟩ : ∃ y, A[p]? = some y := ⟨_, List.getElem?_eq_getElem (by have := HNa.out; omega)⟩
                      obtain ⟨z, hz⟩ : ∃ z, Bl[r]? = some z := ⟨_, List.getElem?_eq_getElem (by have := HNb.out; omega)⟩
                      obtain ⟨b1, o1, e1, hb1, d1⟩ := rdT_at (HA.out _ (HG1.out _ (HT4.out _ HBq.out))) hy
                      obtain ⟨b2, o2, e2, hb2, d2⟩ := rdT_at (HBl.out _ (HG1.out _ (HT4.out _ HBq.out))) hz
                      subst e1
                      subst e2
                      have i1 : (0 : Int) ≤ (p : Int) := by omega
                      have i2 : (p : Int) < (n : Int) := by omega
                      have i3 : (0 : Int) ≤ (r : Int) := by omega
                      have i4 : (r : Int) < (m : Int) := by omega
                      have i5 : (p : Int) < (n : Int) := by omega
                      have HBd := hid (below_drewN HBq.out 1)
                      have HYY := hid hy
                      have HZZ := hid hz
                      have HPp := hid hp
                      have HPr := hid hr
                      clear hy hz hb1 hb2
                      by_cases hyz : y = z
                      · subst hyz
                        have s1 : (y.toList == y.toList) = true := beq_self_eq_true _
                        have HE2 : Hid (part A i0 (i0 + (d + 1)) = part Bl k0 (k0 + (d + 1))) := hid (by
                          rw [← Nat.add_assoc, ← Nat.add_assoc, ← hp, ← hr, ← part_two A (show i0 ≤ p by omega) (Nat.le_succ p), ← part_two Bl (show k0 ≤ r by omega) (Nat.le_succ r), HE.out, part_oneS HYY.out, part_oneS HZZ.out])
                        clear HE HYY HZZ hp hr
                        go_wp2_with fail
                        go_region_held3 (fun w' => w'.cell? ⟨BX, 1, none⟩ = some (.slice (some ⟨b1, o1, none⟩) n ca) ∧ w'.cell? ⟨BX, 2, none⟩ = some (.slice (some ⟨b2, o2, none⟩) m cb) ∧ w'.cell? ⟨b1, o1 + p, none⟩ = some (.string y) ∧ w'.cell? ⟨b2, o2 + r, none⟩ = some (.string y)) (go_keep) (fail)
                        go_wp2_with fail
                        go_roundw
                        case rel => exact ⟨d + 1, by omega, by rw [show i0 + (d + 1) = p + 1 by have := HPp.out; omega]; go_num, by rw [show k0 + (d + 1) = r + 1 by have := HPr.out; omega]; go_num, HE2, HBd⟩
                        case measure => simp [intOf] <;> omega
                      · have s1 : (y.toList == z.toList) = false := by
                          rw [beq_eq_false_iff_ne, ByteArray.toList_eq, ByteArray.toList_eq]
                          exact fun e => hyz (ba_ext e)
                        have HBe := hid (HT4.out _ HBd.out)
                        clear HE HYY HZZ hyz hp hr
                        go_wp2_with fail
                        go_region_held3 (fun w' => w'.cell? ⟨BX, 1, none⟩ = some (.slice (some ⟨b1, o1, none⟩) n ca) ∧ w'.cell? ⟨BX, 2, none⟩ = some (.slice (some ⟨b2, o2, none⟩) m cb) ∧ w'.cell? ⟨b1, o1 + p, none⟩ = some (.string y) ∧ w'.cell? ⟨b2, o2 + r, none⟩ = some (.string z)) (go_keep) (fail)
                        go_wp2_with fail
                        refine (wordy_any _).mono ?_
                        rintro e wz ⟨rfl, hbz⟩
                        have HBz := hid (HG1.out _ (HBe.out.trans (hbz.mono (Nat.le_trans (Nat.le_of_eq HGG.out) HBe.out.size))))
                        clear hbz
                        go_wp2_with fail
                        go_ret
                        exact ⟨rfl, HBz.out⟩
                    · have hde : d = n - i0 := by omega
                      have i5 : ¬ (p : Int) < (n : Int) := by omega
                      have HE2 : Hid (part A i0 A.length = part Bl k0 Bl.length) := hid (by have := HE.out; rw [← HNa.out, ← HNb.out]; rwa [show p = n by omega, show r = m by omega] at this)
                      have hpx : p = n := by omega
                      have hrx : r = m := by omega
                      have HC2 : Hid (com A Bl S 0 0) := hid (HCO.out (by rw [HCM.out]; exact HE2.out))
                      clear HE HE2 HCM HCO
                      rw [hpx] at i5 ⊢
                      rw [hrx]
                      go_wp2_with fail
                      go_roundw
                      case rel => exact ⟨c + 1, n, m, by omega, by go_num, rfl, rfl, Nat.le_refl _, Nat.le_refl _, hid (fun h => by omega), hid (fun _ => HC2.out), HBq⟩
                      case measure => simp [intOf] <;> omega
              · have j0 : ¬ (c : Int) ≤ (N : Int) := by omega
                have HCC := hid (HC.out (by omega))
                clear HV HC
                go_wp2_with fail
                go_loopw [9, 15] (fun tt i wr => ∃ (k : Nat) (T : ByteArray), k ≤ n ∧ i = .int .i64 k ∧ tt = .string T ∧ Hid (T.data.toList = flatB (A.take k)) ∧ Hid (Below G4 w4 wr)) (fun _ i _ => n - (intOf i).toNat)
                case atStart => exact ⟨0, _, Nat.zero_le _, rfl, rfl, hid rfl, HBc⟩
                case round =>
                  obtain ⟨k, T, hk, rfl, rfl, HTT, HBj⟩ := hrel
                  obtain ⟨u0, u1, u2⟩ := HX.out _ (HT4.out _ HBj.out)
                  by_cases hlt : k < n
                  · obtain ⟨x, hx⟩ : ∃ x, A[k]? = some x := ⟨_, List.getElem?_eq_getElem (by have := HNa.out; omega)⟩
                    obtain ⟨b1, o1, e1, hb1, d1⟩ := rdT_at (HA.out _ (HG1.out _ (HT4.out _ HBj.out))) hx
                    subst e1
                    have HT2 : Hid ((T ++ x).data.toList = flatB (A.take (k + 1))) := hid (by rw [add_dataS, HTT.out, flatB_take hx])
                    have hsz : T.size + x.size ≤ 1048576 := by
                      have h1 := flatB_le A (k + 1)
                      rw [← HT2.out, add_dataS, List.length_append, dsize, dsize] at h1
                      have := HFa.out
                      omega
                    have i1 : (0 : Int) ≤ (k : Int) := by omega
                    have i2 : (k : Int) < (n : Int) := by omega
                    clear hx hb1 HTT
                    go_wp2
                    go_roundw
                    case rel => exact ⟨k + 1, T ++ x, by omega, by go_num, rfl, HT2, HBj⟩
                    case measure => simp [intOf] <;> omega
                  · have HTA : Hid (T = bB (flatB A)) := hid (ba_ext (by rw [HTT.out, List.take_of_length_le (by have := HNa.out; omega), bB_data]))
                    obtain ⟨TA, hTA⟩ : ∃ Y, Y = T := ⟨_, rfl⟩
                    rw [← hTA] at HTA ⊢
                    clear HTT hTA
                    go_wp2_with fail
                    go_loopw [10, 16] (fun tt i wr => ∃ (k : Nat) (T : ByteArray), k ≤ m ∧ i = .int .i64 k ∧ tt = .string T ∧ Hid (T.data.toList = flatB (Bl.take k)) ∧ Hid (Below G4 w4 wr)) (fun _ i _ => m - (intOf i).toNat)
                    case atStart => exact ⟨0, _, Nat.zero_le _, rfl, rfl, hid rfl, HBj⟩
                    case round =>
                      obtain ⟨k, T, hk, rfl, rfl, HTT, HBj⟩ := hrel
                      obtain ⟨u0, u1, u2⟩ := HX.out _ (HT4.out _ HBj.out)
                      by_cases hlt : k < m
                      · obtain ⟨x, hx⟩ : ∃ x, Bl[k]? = some x := ⟨_, List.getElem?_eq_getElem (by have := HNb.out; omega)⟩
                        obtain ⟨b1, o1, e1, hb1, d1⟩ := rdT_at (HBl.out _ (HG1.out _ (HT4.out _ HBj.out))) hx
                        subst e1
                        have HT2 : Hid ((T ++ x).data.toList = flatB (Bl.take (k + 1))) := hid (by rw [add_dataS, HTT.out, flatB_take hx])
                        have hsz : T.size + x.size ≤ 1048576 := by
                          have h1 := flatB_le Bl (k + 1)
                          rw [← HT2.out, add_dataS, List.length_append, dsize, dsize] at h1
                          have := HFb.out
                          omega
                        have i1 : (0 : Int) ≤ (k : Int) := by omega
                        have i2 : (k : Int) < (m : Int) := by omega
                        clear hx hb1 HTT
                        go_wp2
                        go_roundw
                        case rel => exact ⟨k + 1, T ++ x, by omega, by go_num, rfl, HT2, HBj⟩
                        case measure => simp [intOf] <;> omega
                      · have HTB : Hid (T = bB (flatB Bl)) := hid (ba_ext (by rw [HTT.out, List.take_of_length_le (by have := HNb.out; omega), bB_data]))
                        obtain ⟨TB, hTB⟩ : ∃ Y, Y = T := ⟨_, rfl⟩
                        rw [← hTB] at HTB ⊢
                        clear HTT hTB
                        obtain ⟨hwA, hwB⟩ := back_both (A := A) (B := Bl) (s := S) (by have := HV0.out; rwa [HNa.out, HNb.out] at this) HFrA.out HFrB.out HCC.out
                        have HZs : Hid (Z.size ≤ 70368744177664) := hid (by rw [HZ.out, bB_sizeS]; have := HTl.out; omega)
                        have HWA : Hid (∀ w', Calls Tryd.prog 23 #[.string Z, .string ⟨#[123, 43]⟩, .string ⟨#[43, 125]⟩, .string ⟨#[91, 45]⟩, .string ⟨#[45, 93]⟩] w' fun e w'' => e = .returned (.string TA) ∧ Below w'.heap.size w' w'') := hid (fun w' => by
                          have := without_any (f := (123, 43)) (t := (43, 125)) (o := (91, 45)) (c := (45, 93)) (F := ⟨#[123, 43]⟩) (T := ⟨#[43, 125]⟩) (O := ⟨#[91, 45]⟩) (C := ⟨#[45, 93]⟩) Z w' ((ByteArray.toList_eq _).trans rfl) ((ByteArray.toList_eq _).trans rfl) ((ByteArray.toList_eq _).trans rfl) ((ByteArray.toList_eq _).trans rfl) HZs.out
                          rw [show Z.data.toList = inlP A Bl S 0 by rw [HZ.out, bB_data], hwA, ← HTA.out] at this
                          exact this)
                        have HWB : Hid (∀ w', Calls Tryd.prog 23 #[.string Z, .string ⟨#[91, 45]⟩, .string ⟨#[45, 93]⟩, .string ⟨#[123, 43]⟩, .string ⟨#[43, 125]⟩] w' fun e w'' => e = .returned (.string TB) ∧ Below w'.heap.size w' w'') := hid (fun w' => by
                          have := without_any (f := (91, 45)) (t := (45, 93)) (o := (123, 43)) (c := (43, 125)) (F := ⟨#[91, 45]⟩) (T := ⟨#[45, 93]⟩) (O := ⟨#[123, 43]⟩) (C := ⟨#[43, 125]⟩) Z w' ((ByteArray.toList_eq _).trans rfl) ((ByteArray.toList_eq _).trans rfl) ((ByteArray.toList_eq _).trans rfl) ((ByteArray.toList_eq _).trans rfl) HZs.out
                          rw [show Z.data.toList = inlP A Bl S 0 by rw [HZ.out, bB_data], hwB, ← HTB.out] at this
                          exact this)
                        have s1 := str_same TA
                        have s2 := str_same TB
                        clear hwA hwB HTA HTB HZ HZs
                        go_wp2_with fail
                        refine (HWA.out _).mono ?_
                        rintro e w6 ⟨rfl, hb6⟩
                        have HB6 := hid (HBj.out.trans (hb6.mono (by have h1 := HBj.out.size; have h2 := HG4.out; omega)))
                        clear hb6
                        go_wp2_with fail
                        refine (HWB.out _).mono ?_
                        rintro e w7 ⟨rfl, hb7⟩
                        have HB7 := hid (HT4.out _ (HB6.out.trans (hb7.mono (by have h1 := HB6.out.size; have h2 := HG4.out; omega))))
                        clear hb7 HB6
                        go_wp2_with fail
                        refine (wordy_any _).mono ?_
                        rintro e wz ⟨rfl, hbz⟩
                        have HBz := hid (HG1.out _ (HB7.out.trans (hbz.mono (Nat.le_trans (Nat.le_of_eq HGG.out) HB7.out.size))))
                        clear hbz
                        go_wp2_with fail
                        go_ret
                        exact ⟨rfl, HBz.out⟩
          · have q1 : ((K : Int) != 0) = true := by rw [bne, ine (m := 0) (by omega)]; rfl
            have q0 : ((K : Int) == 0) = false := ine (m := 0) (by omega)
            have z2 : ((K : Int) == (K : Int)) = true := zeq rfl
            clear HK HSr
            go_wp2_with fail
            refine (num_any K _ (HGe.out _ (Below.refl _ _))).mono ?_
            rintro e w5 ⟨rfl, hb5⟩
            have HB5 := hid (HB4.out.trans (hb5.mono (by have h1 := HB4.out.size; have h2 := HGG.out; omega)))
            clear hb5
            go_wp2_with fail
            refine (wordy_any _).mono ?_
            rintro e wz ⟨rfl, hbz⟩
            have HBz := hid (HG1.out _ (HB5.out.trans (hbz.mono (Nat.le_trans (Nat.le_of_eq HGG.out) HB5.out.size))))
            clear hbz
            go_wp2_with fail
            go_ret
            exact ⟨rfl, HBz.out⟩

theorem own : ownKnob Tryd.prog.godebug = none := by kernel_rfl

set_option maxRecDepth 100000 in
theorem contract (H : Type) (enc : TypeId × Value → H) (W : World) (base : Nat) (args : Array Value) (ds gs : List (DataW H)) (before : List MemPlace)
    (hval : ∀ (j : Nat) t v, Tryd.f7.params[j]? = some t → args[j]? = some v → Value.okWide Tryd.prog W .any base t v)
    (hW : DataW.Whole enc Tryd.prog Tryd.f7.params.toList Rows.sideBackSpec.vars false W args.toList ds gs before)
    (hk : Rows.uptoSmall H (ds ++ gs) = true)
    (hL : laidMetH Tryd.prog Rows.sideBackUptoRow.laid W)
    : Calls Tryd.prog 7 args W fun e W' => ∃ v, e = .returned v ∧ Rows.sideBackSpec.post enc Tryd.prog Tryd.f7 false true false false W args v W' := by
  have hW' := hW
  obtain ⟨p, q, hA0, hV, rfl, hfz, hnd⟩ := hW
  have hA : DataW.TrodAll enc Tryd.prog W 0 (fun _ => true) true Tryd.f7.params.toList args.toList ds p := hA0
  rw [Tryd.params7] at hA hval
  obtain ⟨v0, vs0, d0, ds0, p0, q0, hargs0, rfl, rfl, h0, r0⟩ := trodAll_cons hA
  obtain ⟨rfl, rfl, rfl⟩ := trodAll_nil r0
  obtain rfl : args = #[v0] := by cases args; simp_all
  obtain ⟨rfl, rfl⟩ := trodVars_none hV
  obtain ⟨v0_0, x0_0, v0_1, x0_1, v0_2, x0_2, x0_3, rfl, hr0_0, hw0_0, hs0_0, hr0_1, hw0_1, hs0_1, hr0_2, hw0_2, hs0_2, hq0⟩ := open_case15 h0
  clear hA0
  simp only [List.append_nil] at hW' hk
  have hk' : Rows.uptoBulkAll (H := H) [d0] ≤ 1048576 := of_decide_eq_true hk
  simp only [Rows.uptoBulkAll] at hk'
  have hlen0 := hq0 (by omega)
  have hlt0 : ∀ x ∈ p0, x.block < W.heap.size := fun x hx => by simpa using hW'.lt x (by simp [hx])
  refine (walk v0_0 x0_0 v0_1 x0_1 v0_2 x0_2 x0_3 W hr0_0 hw0_0 hlen0.1 hs0_0 hr0_1 hw0_1 hlen0.2.1 hs0_1 hr0_2 hw0_2 hlen0.2.2 hs0_2 (handle_of hL)).mono fun e W' ⟨he, hb⟩ => ?_
  subst he
  exact ⟨_, rfl, _, _, _, [], (p0 ++ []), [], hW', trodAll_cons_mk (shut_bool Tryd.underlying4 _) trodAll_mk0, trodAll_cons_mk (Below.trod laidOut (by kernel_rfl) (of_decide_eq_true (by kernel_rfl)) h0 hb hlt0) trodAll_mk0, rfl, hb.frame _, fun h => by cases h⟩

set_option maxRecDepth 100000 in
theorem lifted (os : Os) (started : os.Started) (H : Type) (enc : TypeId × Value → H) (F : Stop.Interp) :
    ReturnsInHanded {} Tryd.checked os 7 .any ((Rows.OpenSpec.upto Rows.sideBackSpec).preRow enc Tryd.prog Tryd.f7 Rows.sideBackUptoRow.domain false Rows.sideBackUptoRow.laid) (((Rows.OpenSpec.upto Rows.sideBackSpec).at F).post enc Tryd.prog Tryd.f7 false true false false) := by
  refine returnsInHanded_of_row (C := Tryd.checked) (s := Rows.OpenSpec.upto Rows.sideBackSpec) own started (by kernel_rfl) Tryd.func7
    (witness_row_at (enc := enc) (C := Tryd.checked) false
      { World.holding Tryd.prog os ⟨#[], #[], []⟩ with heap := (World.holding Tryd.prog os ⟨#[], #[], []⟩).heap.modify 0 fun
          | .cells _ t frozen => .cells #[.iface 120 (.agg #[.pointer (some ⟨2, 27, none⟩)])] t frozen
          | o => o }
      #[.agg #[.slice none 0 0, .slice none 0 0, .slice none 0 0, .int .i64 0]] rfl (by kernel_rfl) (by kernel_rfl) (by kernel_rfl)
      (OpenSpec.preRow_of_cond 8 (x := ([.agg [.nil, .nil, .nil, .lit (.int .i64 0)]], [], [])) (by kernel_rfl) (by kernel_rfl) (fun k hk => by cases hk; kernel_rfl) (by kernel_rfl) (laidMetH_of_parts (laidMet_nil _ _) (by kernel_rfl)))) ?_
  intro W base args ds gs before hval hW _ hcond hsz hL _ _
  exact contract H enc W base args ds gs before hval hW (hcond _ rfl) hL

theorem said : Rows.SideBackUptoSaid :=
  OpenClaim.holds_of_cond 7 Tryd.f7 rfl rfl rfl rfl rfl rfl rfl ⟨rfl, rfl, rfl, rfl, rfl⟩ rfl rfl rfl rfl rfl (by kernel_rfl) Tryd.func7 (by kernel_rfl)
    (of_decide_eq_true (by kernel_rfl)) (by unfold Func.isWrapper; first | (rw [if_pos (by decide +kernel)]; kernel_rfl) | (rw [if_neg (by decide +kernel)]; exact ⟨rfl, rfl⟩))
    (fun os started H enc _ F => by rw [OpenClaim.pre_eq_preRow]; exact lifted os started H enc F)

theorem plain (f : FuncId) (fn : Func) (hf : Tryd.pinned.checked.prog.funcNamed Rows.sideBackUptoRow.func = some f) (hfn : Tryd.pinned.checked.prog.funcs[f]? = some fn) :
    true = Tryd.pinned.checked.prog.looks [] ∧ ∀ (j : Nat) t, fn.params[j]? = some t → Tryd.pinned.checked.prog.wantsStandIn t = false := by
  obtain rfl : f = 7 := Option.some.inj ((show Tryd.prog.funcNamed Rows.sideBackUptoRow.func = some 7 by kernel_rfl).symm.trans hf) |>.symm
  obtain rfl : fn = Tryd.f7 := (Option.some.inj (Tryd.func7.symm.trans hfn)).symm
  refine ⟨by kernel_rfl, fun j t ht => ?_⟩
  rw [Tryd.params7] at ht
  have hm : t = 25 := by simpa using Array.mem_of_getElem? ht
  rcases hm with rfl
  · exact (show Tryd.prog.wantsStandIn 25 = false by kernel_rfl)

theorem card : Rows.SideBackUptoCardSaid :=
  Claim7.holds_tied_plain_at .later [] _ _ _ _ said (fun _ h => by cases h) (by kernel_rfl) (fun _ h => by cases h) sideBackUpto_row_tie rfl ⟨rfl, rfl⟩ (by kernel_rfl) rfl plain (by kernel_rfl)
end Go.Proofs.YtgpgpopefmkpoaaDoor.sideBack
