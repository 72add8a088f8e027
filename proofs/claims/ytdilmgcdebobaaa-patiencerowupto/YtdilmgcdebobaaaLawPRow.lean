/-
  PROVED: for every list of integers PatienceRow returns true, and the list reads afterwards as it read before; the condition: what it holds is at most 1048576 in bulk.
-/
import Derived.Test.YtdilmgcdebobaaaY4
import Derived.Test.YtdilmgcdebobaaaGrC9
import Derived.ProofKit
import Derived.OpenShut
import Derived.LaidLaws
import Derived.LaidHandle
import Derived.SizedLaws
import Derived.Deep.DeepHandedRow
namespace Go.Proofs.Ytdilmgcdebobaaa.patienceRow
open Go.ChangeShapes Go.WideShapes Go.ChangeAt Go.RowKit
open Go.ChangeMaps (open_string shut_string)
open Ed (Ch Run Pr)

theorem row_lt {f : Nat → Int} {n : Nat} {R : List Nat} (h : Pn.RowOk f n R) : ∀ (d k p : Nat), k + d + 1 = R.length → R[k]? = some p → p < n
  | 0, k, p, hd, hp => (h.last p (by rw [show R.length - 1 = k by omega]; exact hp)).1
  | d + 1, k, p, hd, hp => by
    obtain ⟨q, hq⟩ : ∃ q, R[k + 1]? = some q := ⟨_, List.getElem?_eq_getElem (by omega)⟩
    have h1 := row_lt h d (k + 1) q (by omega) hq
    have h2 := (h.step k p q hp hq).1
    omega
theorem row_len {f : Nat → Int} {n : Nat} {R : List Nat} {P : Pn.Piles} (h : Pn.RowOk f n R) (hP : Pn.PilesOk f n P) : P.length = R.length := by
  apply Nat.le_antisymm
  · rcases Nat.eq_zero_or_pos P.length with e | e
    · omega
    · obtain ⟨p, hp⟩ : ∃ p, P[P.length - 1]? = some p := ⟨_, List.getElem?_eq_getElem (by omega)⟩
      obtain ⟨_, h2, _, h4, _⟩ := hP.at_ _ p hp
      have := h.most p.2 h2
      omega
  · rcases Nat.eq_zero_or_pos R.length with e | e
    · omega
    · obtain ⟨p, hp⟩ : ∃ p, R[R.length - 1]? = some p := ⟨_, List.getElem?_eq_getElem (by omega)⟩
      obtain ⟨h1, h2, _⟩ := h.last p hp
      have := hP.most p h1
      omega
/-- what lies on top of the piles -/
def tps (f : Nat → Int) (P : Pn.Piles) : List Int := P.map fun p => f p.2
theorem tps_new (f : Nat → Int) (P : Pn.Piles) (i : Nat) : tps f (P ++ [(i, i)]) = tps f P ++ [f i] := by unfold tps; rw [List.map_append]; rfl
theorem tps_put (f : Nat → Int) (P : Pn.Piles) (k i j : Nat) : tps f (P.set k (j, i)) = (tps f P).set k (f i) := by unfold tps; rw [List.map_set]
theorem tps_at {f : Nat → Int} {P : Pn.Piles} {k : Nat} {p : Nat × Nat} (h : P[k]? = some p) : (tps f P)[k]? = some (f p.2) := by unfold tps; rw [List.getElem?_map, h]; rfl
theorem tps_len (f : Nat → Int) (P : Pn.Piles) : (tps f P).length = P.length := List.length_map ..

set_option maxHeartbeats 8000000 in
set_option maxRecDepth 100000 in
theorem walk (va : Value) (a : List Int) (w : World) (hra : RdI w va a) (_hwa : ∀ z ∈ a, I64 z) (hla : a.length ≤ 1048576) (hsa : va = .slice none 0 0 ∨ ∃ ad n c, va = .slice (some ad) n c) :
    Calls Try.prog 5 #[va] w fun e w' => e = .returned (.bool true) ∧ Below w.heap.size w w' := by
  have HRa := hid hra
  have HT := hid (twinI_any hra hsa (by omega))
  obtain ⟨pa, ka, rfl⟩ := hra.shape
  clear hra hsa
  by_cases h3 : 3000 < a.length
  · have j1 : ((a.length : Int) > 3000) ↔ True := iff_true_intro (by omega)
    go_enter Try.func5, Try.ntmps5
    go_wp2_with fail
    refine (works8_any _).mono ?_
    rintro e w8 ⟨rfl, hb8⟩
    have HB8 := hid hb8
    clear hb8
    go_wp2
    go_ret
    exact ⟨rfl, HB8.out⟩
  · obtain ⟨NA, hNA⟩ : ∃ NA, NA = a.length := ⟨_, rfl⟩
    rw [← hNA] at HT HRa h3 ⊢
    have HNA := hid hNA
    have hN3 : NA ≤ 3000 := by omega
    have j1 : ¬ ((NA : Int) > 3000) := by omega
    clear hNA h3 hla
    go_enter Try.func5, Try.ntmps5
    go_wp2_with fail
    refine HT.out.mono ?_
    rintro e w1 ⟨v1, rfl, hO1, hb1⟩
    obtain ⟨a1, c1, rfl⟩ := own_shape hO1
    have HX1 : Hid (RdI w1 (.slice a1 NA c1) a) := hid (by have h := own_rd hO1; show RdX _ _ _ _; rw [← HNA.out]; exact h)
    have HB1 := hid hb1
    have HC1 := hid (rising_any HX1.out (by have := HNA.out; omega))
    clear hO1 hb1 HT
    go_wp2_with fail
    refine HC1.out.mono ?_
    rintro e w2 ⟨v2, S, rfl, hO2, hSl, hS, hb2⟩
    obtain ⟨a2, c2, rfl⟩ := own_shape hO2
    have HY2 : Hid (RdX w2 (.slice a2 S.length c2) S.length (isC (ni S))) := hid (own_rd hO2)
    have HB2 := hid (HB1.out.trans (hb2.mono HB1.out.size))
    have HS := hid hS
    have HL2 : Hid (RdI w2 (.slice pa NA ka) a) := hid (HRa.out.below HB2.out)
    obtain ⟨NS, hNS⟩ : ∃ NS, NS = S.length := ⟨_, rfl⟩
    have HNS := hid hNS
    rw [← hNS] at HY2 hSl
    rw [← hNS]
    have hNSl : NS ≤ 3000 := by have := HNA.out; omega
    clear hO2 hb2 hS HC1 HX1 hNS hSl HB1 HRa
    go_wp2
    go_loopw [4] (fun ii wr => ∃ k : Nat, k ≤ NS ∧ ii = .int .i64 k ∧ ∃ q, wr = w2.drewN q) (fun ii _ => NS - (intOf ii).toNat)
    case atStart => exact ⟨0, Nat.zero_le _, rfl, 0, rfl⟩
    case round =>
      obtain ⟨k, hk, rfl, q, rfl⟩ := hrel
      by_cases hlt : k < NS
      · obtain ⟨p, hp⟩ : ∃ p, S[k]? = some p := ⟨_, List.getElem?_eq_getElem (by have := HNS.out; omega)⟩
        have hpn : p < NA := by have := row_lt HS.out (S.length - k - 1) k p (by have := HNS.out; omega) hp; have := HNA.out; omega
        have hni : (ni S)[k]? = some (p : Int) := by unfold ni; rw [List.getElem?_map, hp]; rfl
        have d0 : ∃ b o, a2 = some ⟨b, o, none⟩ ∧ b < w2.heap.size ∧ w2.cell? ⟨b, o + k, none⟩ = some (.int .i64 p) := rdI_at (by have h := HY2.out; show RdX _ _ _ _; rw [show (ni S).length = NS by unfold ni; rw [List.length_map]; exact HNS.out.symm]; exact h) hni
        have i1 : (0 : Int) ≤ (k : Int) := by omega
        have i2 : (k : Int) < (NS : Int) := by omega
        have i3 : IntKind.i64.wrap ((k : Int) + 1) = (k : Int) + 1 := by rw [IntKind.wrap_i64]; omega
        have i4 : decide ((p : Int) < 0) = false := decide_eq_false (by omega)
        have i5 : decide ((p : Int) ≥ (NA : Int)) = false := decide_eq_false (by omega)
        have i6 : decide (NA ≤ p) = false := decide_eq_false (by omega)
        obtain ⟨b1, o1, rfl, _, d1⟩ := d0
        by_cases h0 : 0 < k
        · obtain ⟨p', hp'⟩ : ∃ p', S[k - 1]? = some p' := ⟨_, List.getElem?_eq_getElem (by have := HNS.out; omega)⟩
          obtain ⟨hs1, hs2, _⟩ := HS.out.step (k - 1) p' p hp' (by rw [show k - 1 + 1 = k by omega]; exact hp)
          obtain ⟨kp, hkp⟩ : ∃ kp, kp = k - 1 := ⟨_, rfl⟩
          have hni' : (ni S)[kp]? = some (p' : Int) := by unfold ni; rw [List.getElem?_map, hkp, hp']; rfl
          obtain ⟨b1', o1', e1', _, d1'⟩ := rdI_at (w := w2) (a := some ⟨b1, o1, none⟩) (n := NS) (c := c2) (by have h := HY2.out; show RdX _ _ _ _; rw [show (ni S).length = NS by unfold ni; rw [List.length_map]; exact HNS.out.symm]; exact h) hni'
          cases e1'
          have hal : a[p]? = some (fn a p) := fn_some (by have := HNA.out; omega)
          have hal' : a[p']? = some (fn a p') := fn_some (by have := HNA.out; omega)
          obtain ⟨b3, o3, rfl, _, d3⟩ := rdI_at (HNA.out ▸ HL2.out) hal
          obtain ⟨b4, o4, e4, _, d4⟩ := rdI_at (HNA.out ▸ HL2.out) hal'
          cases e4
          have j2 : ((k : Int) > 0) ↔ True := iff_true_intro (by omega)
          have j3 : IntKind.i64.wrap ((k : Int) - 1) = (kp : Int) := (wrapOk (by omega) (by omega)).trans (by omega)
          have j4 : decide ((p : Int) ≤ (p' : Int)) = false := decide_eq_false (by omega)
          have j6 : decide (p ≤ p') = false := decide_eq_false (by omega)
          have j5 : decide (fn a p ≤ fn a p') = false := decide_eq_false (by omega)
          have m1 : (0 : Int) ≤ (kp : Int) := by omega
          have m2 : (kp : Int) < (NS : Int) := by omega
          have m3 : (0 : Int) ≤ (p : Int) := by omega
          have m4 : (p : Int) < (NA : Int) := by omega
          have m5 : (0 : Int) ≤ (p' : Int) := by omega
          have m6 : (p' : Int) < (NA : Int) := by omega
          clear hp hp' hni hni' hal hal' hs1 hs2 hkp
          generalize fn a p = y1 at d3 j5
          generalize fn a p' = y2 at d4 j5
          go_wp2
          go_quiet (fail)
          go_wp2
          go_roundw
          case rel => exact ⟨k + 1, by omega, by go_num, _, by first | rfl | exact World.drewN_drewN _ _ _⟩
          case measure => simp [intOf]; omega
        · obtain rfl : k = 0 := by omega
          simp only [Nat.add_zero] at d1
          have n1 : 0 < NS := hlt
          have n2 : (0 : Int) < (NS : Int) := by omega
          clear hp hni i1 i2 i3
          go_wp2
          go_quiet (fail)
          go_wp2
          go_roundw
          case rel => exact ⟨1, by omega, by go_num, _, by first | rfl | exact World.drewN_drewN _ _ _⟩
          case measure => simp [intOf]; omega
      · obtain rfl : k = NS := by omega
        have HB3 : Hid (Below w.heap.size w (w2.drewN q)) := hid (below_drewN HB2.out q)
        have HL3 : Hid (RdI (w2.drewN q) (.slice pa NA ka) a) := hid (HL2.out.below (below_drewN (Below.refl _ _) q))
        clear HY2 HB2 HL2 hk hlt
        go_wp2
        generalize w2.drewN q = w3 at HB3 HL3 ⊢
        obtain ⟨B, hBB⟩ : ∃ B, B = w3.heap.size := ⟨_, rfl⟩
        have HBB := hid hBB
        go_loopw [5, 6, 7] (fun v5 ii _ wr => ∃ (i : Nat) (P : Pn.Piles), i ≤ NA ∧ ii = .int .i64 i ∧ P.length ≤ i ∧ Hid (Pn.PilesOk (fn a) i P) ∧ Hid (wr.ownsRow B 3 1 v5 P.length (isC (tps (fn a) P))) ∧ Hid (Below w3.heap.size w3 wr)) (fun _ ii _ _ => NA - (intOf ii).toNat)
        case atStart => exact ⟨0, [], Nat.zero_le _, rfl, Nat.le_refl _, hid (Pn.piles_none _), hid (World.ownsRow_nil _ _ _ _), hid (Below.refl _ _)⟩
        case round =>
          clear hBB
          obtain ⟨i, P, hi, rfl, hPi, HPO, HO, HBr⟩ := hrel
          obtain ⟨a5, c5, e5⟩ := own_shape HO.out
          subst e5
          obtain ⟨NP, hNP⟩ : ∃ NP, NP = P.length := ⟨_, rfl⟩
          have HNP := hid hNP
          rw [← hNP] at HO hPi ⊢
          clear hNP
          by_cases hlt : i < NA
          · have hal : a[i]? = some (fn a i) := fn_some (by have := HNA.out; omega)
            obtain ⟨b3, o3, rfl, hb3, d3⟩ := rdI_at (HNA.out ▸ HL3.out) hal
            have d3' := (HBr.out.cell (p := ⟨b3, o3 + i, none⟩) hb3).trans d3
            obtain ⟨y, hy⟩ : ∃ y, y = fn a i := ⟨_, rfl⟩
            rw [← hy] at d3'
            have HY := hid hy
            obtain ⟨K0, hK0⟩ : ∃ K0, K0 = Pn.lg (fn a) i - 1 := ⟨_, rfl⟩
            have HK0 := hid hK0
            have hK0P : K0 ≤ NP := by have := Pn.lg_most HPO.out; have := HNP.out; omega
            have i1 : (0 : Int) ≤ (i : Int) := by omega
            have i2 : (i : Int) < (NA : Int) := by omega
            have i3 : IntKind.i64.wrap ((i : Int) + 1) = (i : Int) + 1 := by rw [IntKind.wrap_i64]; omega
            clear hal d3 hy hK0
            go_wp2
            go_loopw [7] (fun kk wx => ∃ k : Nat, k ≤ K0 ∧ kk = .int .i64 k ∧ ∃ q, wx = wr.drewN q) (fun kk _ => K0 - (intOf kk).toNat)
            case atStart => exact ⟨0, Nat.zero_le _, rfl, 0, rfl⟩
            case round =>
              obtain ⟨k, hk, rfl, q, rfl⟩ := hrel
              go_upto_region 14 with fail
              go_cut [89] (fun c wx => c = .bool (decide (k < K0)) ∧ ∃ q, wx = wr.drewN q)
              case first =>
                by_cases hkP : k < NP
                · obtain ⟨p, hp⟩ : ∃ p, P[k]? = some p := ⟨_, List.getElem?_eq_getElem (by have := HNP.out; omega)⟩
                  have hsr := Pn.piles_search HPO.out hp
                  obtain ⟨b5, o5, e5, _, d5⟩ := rdI_at (w := wr) (a := a5) (n := NP) (c := c5) (l := tps (fn a) P) (by have h := own_rd HO.out; show RdX _ _ _ _; rw [tps_len, ← HNP.out]; exact h) (tps_at hp)
                  subst e5
                  obtain ⟨t, ht⟩ : ∃ t, t = fn a p.2 := ⟨_, rfl⟩
                  rw [← ht] at d5
                  have HE : Hid (decide (t < y) = decide (k < K0)) := hid (by
                    rw [← HY.out, ← HK0.out, ← ht] at hsr
                    rw [Bool.eq_iff_iff, decide_eq_true_eq, decide_eq_true_eq]
                    omega)
                  have e1 : decide ((k : Int) < (NP : Int)) = true := decide_eq_true (by omega)
                  have e1' : decide (k < NP) = true := decide_eq_true hkP
                  have m1 : (0 : Int) ≤ (k : Int) := by omega
                  have m2 : (k : Int) < (NP : Int) := by omega
                  clear hp hsr ht
                  go_quiet (fail)
                  go_wp2
                  go_meet
                  exact ⟨by rw [HE.out], _, by first | rfl | exact World.drewN_drewN _ _ _⟩
                · have HE : Hid (decide (k < K0) = false) := hid (decide_eq_false (by omega))
                  have e1 : decide ((k : Int) < (NP : Int)) = false := decide_eq_false (by omega)
                  have e1' : decide (k < NP) = false := decide_eq_false hkP
                  go_quiet (fail)
                  go_wp2
                  go_meet
                  exact ⟨by rw [HE.out], _, by first | rfl | exact World.drewN_drewN _ _ _⟩
              case rest =>
                obtain ⟨rfl, q1, rfl⟩ := hcut
                by_cases hkK : k < K0
                · rw [decide_eq_true hkK]
                  have m3 : IntKind.i64.wrap ((k : Int) + 1) = (k : Int) + 1 := by rw [IntKind.wrap_i64]; omega
                  go_wp2
                  go_roundw
                  case rel => exact ⟨k + 1, by omega, by push_cast; rfl, _, rfl⟩
                  case measure => simp [intOf]; omega
                · rw [decide_eq_false hkK]
                  obtain rfl : k = K0 := by omega
                  have HBq : Hid (Below w3.heap.size w3 (wr.drewN q1)) := hid (below_drewN HBr.out q1)
                  have HOq : Hid ((wr.drewN q1).ownsRow B 3 1 (.slice a5 NP c5) NP (isC (tps (fn a) P))) := hid (own_stays HO.out (below_drewN (Below.refl _ _) q1))
                  have d3q : (wr.drewN q1).cell? ⟨b3, o3 + i, none⟩ = some (.int .i64 y) := d3'
                  clear hk hkK
                  by_cases hkn : k = NP
                  · have z1 : ((k : Int) == (NP : Int)) = true := by rw [hkn]; simp
                    have HP2 : Hid (Pn.PilesOk (fn a) (i + 1) (P ++ [(i, i)])) := hid (Pn.piles_new HPO.out (by rw [← HK0.out, hkn]; exact HNP.out))
                    have HT2 : Hid (tps (fn a) (P ++ [(i, i)]) = tps (fn a) P ++ [y]) := hid (by rw [tps_new, HY.out])
                    have HBS : Hid (B ≤ (wr.drewN q1).heap.size) := hid (by rw [HBB.out]; exact HBq.out.size)
                    have HOI : Hid (OwnI (wr.drewN q1) B (.slice a5 NP c5) (tps (fn a) P)) := hid (by show World.ownsRow _ _ _ _ _ _ _; rw [tps_len, ← HNP.out]; exact HOq.out)
                    have HGE := hid (own_ge2 HOI.out)
                    have hPl : NP ≤ 3000 := by omega
                    have HAP : Hid (Below (wr.drewN q1).heap.size (wr.drewN q1) ((wr.drewN q1).alloc (.cells #[.int .i64 y] 3))) := hid ((Below.refl _ _).alloc (Nat.le_refl _) _)
                    clear hkn
                    have HBX : Hid (B ≤ ((wr.drewN q1).alloc (.cells #[.int .i64 y] 3)).heap.size) := hid (by have := HBS.out; have := HAP.out.size; omega)
                    have HPL : Hid ((tps (fn a) P).length ≤ 1000000000) := hid (by rw [tps_len, ← HNP.out]; omega)
                    go_wp2_with (at_builtin; refine wpList_append_in rfl _ _ rfl B _ (tps (fn a) P) rfl (own_stays HOI.out HAP.out) (wr.drewN q1).heap.size 1 y rfl (one_cell y (wr.drewN q1)) HPL.out HBX.out ?_; intro v' w4 hO4 hg4; have HO4 := hid hO4; have HB4 := hid ((HBq.out.trans (HAP.out.mono HBq.out.size)).grown hg4.1 (by rw [← HBB.out]; exact HBX.out) (fun q hq => by rw [← HBB.out]; exact (HGE.out q hq).1)); clear hO4 hg4)
                    go_roundw
                    case rel => exact ⟨i + 1, P ++ [(i, i)], by omega, by push_cast; rfl, by rw [List.length_append, List.length_singleton, ← HNP.out]; omega, HP2, hid (by have h := HO4.out; have e := HT2.out; rw [← e] at h; have h2 : World.ownsRow _ _ _ _ _ _ _ := h; rw [tps_len] at h2; exact h2), HB4⟩
                    case measure => simp [intOf]; omega
                  · have z1 : ((k : Int) == (NP : Int)) = false := by rw [beq_eq_false_iff_ne]; omega
                    obtain ⟨p, hp⟩ : ∃ p, P[k]? = some p := ⟨_, List.getElem?_eq_getElem (by have := HNP.out; omega)⟩
                    obtain ⟨g5, e5⟩ := own_some' HOq.out (by omega)
                    subst e5
                    have HP2 : Hid (Pn.PilesOk (fn a) (i + 1) (P.set k (p.1, i))) := hid (by rw [HK0.out] at hp ⊢; exact Pn.piles_put HPO.out hp)
                    have HO2 : Hid (((wr.drewN q1).setCell ⟨g5, k, none⟩ (.int .i64 y)).ownsRow B 3 1 (.slice (some ⟨g5, 0, none⟩) NP c5) NP (isC (tps (fn a) (P.set k (p.1, i))))) := hid (by rw [tps_put, ← HY.out]; exact own_setI HOq.out y)
                    have hgB : B ≤ g5 := (own_ge2 HOq.out g5 rfl).1
                    have HB2 : Hid (Below w3.heap.size w3 ((wr.drewN q1).setCell ⟨g5, k, none⟩ (.int .i64 y))) := hid (HBq.out.setCell (p := ⟨g5, k, none⟩) (by rw [← HBB.out]; exact hgB) _)
                    have mf := fun o => own_frozen' HOq.out o
                    obtain ⟨b6, o6, e6, _, d6⟩ := rdI_at (w := wr.drewN q1) (a := some ⟨g5, 0, none⟩) (n := NP) (c := c5) (l := tps (fn a) P) (by have h := own_rd HOq.out; show RdX _ _ _ _; rw [tps_len, ← HNP.out]; exact h) (tps_at hp)
                    cases e6
                    rw [Nat.zero_add] at d6
                    have m1 : (0 : Int) ≤ (k : Int) := by omega
                    have m2 : (k : Int) < (NP : Int) := by omega
                    clear hkn hp
                    go_wp2
                    go_roundw
                    case rel => exact ⟨i + 1, P.set k (p.1, i), by omega, by push_cast; rfl, by rw [List.length_set, ← HNP.out]; omega, HP2, by rw [List.length_set, ← HNP.out]; exact HO2, HB2⟩
                    case measure => simp [intOf]; omega
          · obtain rfl : i = NA := by omega
            have HBx : Hid (Below w.heap.size w wr) := hid (HB3.out.trans (HBr.out.mono HB3.out.size))
            have hlen : NP = k := by rw [HNP.out, HNS.out]; exact row_len HS.out (by have h := HPO.out; rw [HNA.out] at h; exact h)
            subst hlen
            have z1 : ((NP : Int) == (NP : Int)) = true := by simp
            go_wp2_with fail
            refine (works8_any _).mono ?_
            rintro e w8 ⟨rfl, hb8⟩
            have HB8 := hid (HBx.out.trans (hb8.mono HBx.out.size))
            clear hb8
            go_wp2
            go_ret
            exact ⟨rfl, HB8.out⟩

theorem own : ownKnob Try.prog.godebug = none := by kernel_rfl

set_option maxRecDepth 100000 in
theorem contract (H : Type) (enc : TypeId × Value → H) (W : World) (base : Nat) (args : Array Value) (ds gs : List (DataW H)) (before : List MemPlace)
    (hval : ∀ (j : Nat) t v, Try.f5.params[j]? = some t → args[j]? = some v → Value.okWide Try.prog W .any base t v)
    (hW : DataW.Whole enc Try.prog Try.f5.params.toList Rows.patienceRowSpec.vars false W args.toList ds gs before)
    (hk : Rows.uptoSmall H (ds ++ gs) = true)
    : Calls Try.prog 5 args W fun e W' => ∃ v, e = .returned v ∧ Rows.patienceRowSpec.post enc Try.prog Try.f5 false true false false W args v W' := by
  have hW' := hW
  obtain ⟨p, q, hA0, hV, rfl, hfz, hnd⟩ := hW
  have hA : DataW.TrodAll enc Try.prog W 0 (fun _ => true) true Try.f5.params.toList args.toList ds p := hA0
  rw [Try.params5] at hA hval
  obtain ⟨v0, vs0, d0, ds0, p0, q0, hargs0, rfl, rfl, h0, r0⟩ := trodAll_cons hA
  obtain ⟨rfl, rfl, rfl⟩ := trodAll_nil r0
  obtain rfl : args = #[v0] := by cases args; simp_all
  obtain ⟨rfl, rfl⟩ := trodVars_none hV
  obtain ⟨x0, hr0, hw0, hd0, hsh0⟩ := open_ints (okWide_slice Try.underlying22 (hval 0 22 v0 rfl rfl)) h0
  clear hA0
  simp only [List.append_nil] at hW' hk
  have hk' : Rows.uptoBulkAll (H := H) [d0] ≤ 1048576 := of_decide_eq_true hk
  simp only [Rows.uptoBulkAll] at hk'
  have hbk0 := ints_bulk hd0
  have hlt0 : ∀ x ∈ p0, x.block < W.heap.size := fun x hx => by simpa using hW'.lt x (by simp [hx])
  refine (walk v0 x0 W hr0 hw0 (by omega) hsh0).mono fun e W' ⟨he, hb⟩ => ?_
  subst he
  exact ⟨_, rfl, _, _, _, [], (p0 ++ []), [], hW', trodAll_cons_mk (shut_bool Try.underlying4 _) trodAll_mk0, trodAll_cons_mk (Below.trod laidOut (by kernel_rfl) (of_decide_eq_true (by kernel_rfl)) h0 hb hlt0) trodAll_mk0, rfl, hb.frame _, fun h => by cases h⟩

set_option maxRecDepth 100000 in
theorem lifted (os : Os) (started : os.Started) (H : Type) (enc : TypeId × Value → H) (F : Stop.Interp) :
    ReturnsInHanded {} Try.checked os 5 .any ((Rows.OpenSpec.upto Rows.patienceRowSpec).preRow enc Try.prog Try.f5 Rows.patienceRowUptoRow.domain false Rows.patienceRowUptoRow.laid) (((Rows.OpenSpec.upto Rows.patienceRowSpec).at F).post enc Try.prog Try.f5 false true false false) := by
  refine returnsInHanded_of_row (C := Try.checked) (s := Rows.OpenSpec.upto Rows.patienceRowSpec) own started (by kernel_rfl) Try.func5
    (witness_row_at (enc := enc) (C := Try.checked) false
      (World.holding Try.prog os ⟨#[], #[], []⟩)
      #[.slice none 0 0] rfl (by kernel_rfl) (by kernel_rfl) (by kernel_rfl)
      (OpenSpec.preRow_of_cond 8 (x := ([.nil], [], [])) (by kernel_rfl) (by kernel_rfl) (fun k hk => by cases hk; kernel_rfl) (by kernel_rfl) (laidMetH_of_parts (laidMet_nil _ _) (by kernel_rfl)))) ?_
  intro W base args ds gs before hval hW _ hcond hsz hL _ _
  exact contract H enc W base args ds gs before hval hW (hcond _ rfl)

theorem proved : Rows.PatienceRowUptoSaid :=
  OpenClaim.holds_of_cond 5 Try.f5 rfl rfl rfl rfl rfl rfl rfl ⟨rfl, rfl, rfl, rfl, rfl⟩ rfl rfl rfl rfl rfl (by kernel_rfl) Try.func5 (by kernel_rfl)
    (of_decide_eq_true (by kernel_rfl)) (by unfold Func.isWrapper; first | (rw [if_pos (by decide +kernel)]; kernel_rfl) | (rw [if_neg (by decide +kernel)]; exact ⟨rfl, rfl⟩))
    (fun os started H enc _ F => by rw [OpenClaim.pre_eq_preRow]; exact lifted os started H enc F)

end Go.Proofs.Ytdilmgcdebobaaa.patienceRow
