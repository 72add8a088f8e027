/-
  The walk of middle.
-/
import Derived.Test.YtdilmgcdebobaaaK7
namespace Go.Proofs.Ytdilmgcdebobaaa
open Go.RowKit
open Ed (Ch Run Pr)
open My (Ats En)

theorem sweep_up {w : World} {gs gr nA cap lo hi : Nat} {va vb : Value} {a b : List Int} {t : Ats} (n : Nat) (k e : Int) (he : e = k + n)
    (hS : w.heap[gs]? = some (.cells #[va, vb, .int .i64 (My.hf a b), .slice (some ⟨gr, 0, none⟩) nA cap] 144)) (hR : AtR w gr cap t lo hi) (ha : RdI w va a) (hb : RdI w vb b)
    (hna : ∀ g o n c, va = .slice (some ⟨g, o, none⟩) n c → g ≠ gr) (hnb : ∀ g o n c, vb = .slice (some ⟨g, o, none⟩) n c → g ≠ gr) (hgs : gs ≠ gr) (hhi : hi < nA) (hcap : nA ≤ cap)
    (hla : a.length ≤ 2000000) (hlb : b.length ≤ 2000000) (hhh : hi ≤ 10000000) (h1 : (lo : Int) + 1 ≤ k) (h2 : e ≤ hi) (hF : FineG a b 1 n t k) :
    Calls Try.prog 93 #[.pointer (some ⟨gs, 0, none⟩), .int .i64 k, .int .i64 e, .int .i64 1] w fun e w' => e = .returned (.tuple #[]) ∧ Kept (fun j => j = gr) w w' ∧ AtR w' gr cap (My.swU a b n t k) lo hi := by
  subst he
  have h := sweep_any (lo := lo) (hi := hi) 1 n (fun j => k + (j : Int)) hS hR ha hb hna hnb hgs hhi hcap (.inl rfl) hla hlb hhh (fun j => by simp) (fun j => by push_cast; omega) (fun j hj => by simp; omega) (fun j hj => by omega) (by simpa using hF)
  simp only [Int.natCast_zero, Int.add_zero] at h
  rw [swG_up] at h
  exact h
theorem sweep_down {w : World} {gs gr nA cap lo hi : Nat} {va vb : Value} {a b : List Int} {t : Ats} (n : Nat) (k e : Int) (he : e = k - n)
    (hS : w.heap[gs]? = some (.cells #[va, vb, .int .i64 (My.hf a b), .slice (some ⟨gr, 0, none⟩) nA cap] 144)) (hR : AtR w gr cap t lo hi) (ha : RdI w va a) (hb : RdI w vb b)
    (hna : ∀ g o n c, va = .slice (some ⟨g, o, none⟩) n c → g ≠ gr) (hnb : ∀ g o n c, vb = .slice (some ⟨g, o, none⟩) n c → g ≠ gr) (hgs : gs ≠ gr) (hhi : hi < nA) (hcap : nA ≤ cap)
    (hla : a.length ≤ 2000000) (hlb : b.length ≤ 2000000) (hhh : hi ≤ 10000000) (h1 : (lo : Int) ≤ e) (h2 : k + 1 ≤ hi) (hF : FineG a b (-1) n t k) :
    Calls Try.prog 93 #[.pointer (some ⟨gs, 0, none⟩), .int .i64 k, .int .i64 e, .int .i64 (-1)] w fun e w' => e = .returned (.tuple #[]) ∧ Kept (fun j => j = gr) w w' ∧ AtR w' gr cap (My.swD a b n t k) lo hi := by
  subst he
  have h := sweep_any (lo := lo) (hi := hi) (-1) n (fun j => k - (j : Int)) hS hR ha hb hna hnb hgs hhi hcap (.inr rfl) hla hlb hhh (fun j => by omega) (fun j => by push_cast; omega) (fun j hj => by omega) (fun j hj => by omega) (by simpa using hF)
  simp only [Int.natCast_zero, Int.sub_zero] at h
  rw [swG_down] at h
  exact h
def Room (w : World) (gr cap : Nat) : Prop := ∃ cur, w.heap[gr]? = some (.cells cur 146) ∧ cur.size = cap * 2
theorem Room.lt {w : World} {gr cap : Nat} (h : Room w gr cap) : gr < w.heap.size := by
  obtain ⟨cur, h1, _⟩ := h
  exact lt_of_heap h1
theorem Room.far {w w' : World} {gr cap : Nat} (h : Room w gr cap) (hb : w'.heap[gr]? = w.heap[gr]?) : Room w' gr cap := by
  obtain ⟨cur, h1, h2⟩ := h
  exact ⟨cur, hb.trans h1, h2⟩
theorem AtR.room {w : World} {gr cap lo hi : Nat} {t : Ats} (h : AtR w gr cap t lo hi) : Room w gr cap := by
  obtain ⟨cur, g1, g2, _⟩ := h
  exact ⟨cur, g1, g2⟩
theorem Room.atU {w : World} {gr cap : Nat} (h : Room w gr cap) (t : Ats) (lo : Nat) : AtU w gr cap t lo lo := by
  obtain ⟨cur, g1, g2⟩ := h
  exact ⟨cur, g1, g2, fun k q1 q2 => by omega⟩

set_option maxHeartbeats 8000000 in
set_option maxRecDepth 100000 in
theorem middle_any {w : World} {gr nR cap : Nat} {va vb : Value} {a b : List Int} (ha : RdI w va a) (hb : RdI w vb b) (hG : Room w gr cap)
    (hna : ∀ g o n c, va = .slice (some ⟨g, o, none⟩) n c → g ≠ gr) (hnb : ∀ g o n c, vb = .slice (some ⟨g, o, none⟩) n c → g ≠ gr) (hroom : a.length + b.length + 3 ≤ nR) (hcap : nR ≤ cap) (hla : a.length ≤ 2000000) (hlb : b.length ≤ 2000000) :
    Calls Try.prog 91 #[va, vb, .slice (some ⟨gr, 0, none⟩) nR cap] w fun e w' => e = .returned (.tuple #[.int .i64 (My.midP a b).1, .int .i64 (My.midP a b).2]) ∧ Kept (fun j => j = gr) w w' ∧ Room w' gr cap := by
  obtain ⟨aa, ca, rfl⟩ := ha.shape
  obtain ⟨ab, cb, rfl⟩ := hb.shape
  have HA := hid ha
  have HB := hid hb
  have HG := hid hG
  have HNA := hid hna
  have HNB := hid hnb
  have hgl := hG.lt
  have hgs : w.heap.size ≠ gr := by omega
  have HHF : Hid (My.hf a b = ((a.length : Int) + b.length) / 2) := hid rfl
  have hh0 : 0 ≤ My.hf a b := by unfold My.hf; omega
  have hh1 : My.hf a b ≤ 4000000 := by unfold My.hf; omega
  obtain ⟨C, hC⟩ : ∃ C, C = My.midP a b := ⟨_, rfl⟩
  rw [← hC]
  have HC := hid hC
  have i1 : IntKind.i64.wrap ((a.length : Int) + (b.length : Int)) = (a.length : Int) + (b.length : Int) := wrapOk (by omega) (by omega)
  have i2 : (0 : Int) ≤ (a.length : Int) + (b.length : Int) := by omega
  have i3 : ((a.length + b.length + 3 : Nat) : Int) ≤ (cap : Int) := by omega
  have i4 : (0 : Int) ≤ ((a.length + b.length + 3 : Nat) : Int) := by omega
  have hc0 : 0 < cap := by omega
  have HRO := hid (roomOf_any ha hb hla hlb)
  generalize hHV : My.hf a b = HV at hh0 hh1 HHF
  generalize hNA : a.length + b.length + 3 = nA at hroom i3 i4 HRO
  clear ha hb hG hna hnb hC
  have HNN := hid hNA
  clear hNA
  go_enter Try.func91, Try.ntmps91
  go_upto_region 2 with (go_at_call 89; refine HRO.out.mono ?_; rintro e w2 ⟨rfl, hw2⟩; subst w2)
  rw [← HHF.out]
  obtain ⟨SB, hSB⟩ : ∃ SB, SB = Obj.cells #[.slice aa a.length ca, .slice ab b.length cb, .int .i64 HV, .slice (some ⟨gr, 0, none⟩) nA cap] 144 (0, 0) := ⟨_, rfl⟩
  rw [← hSB]
  have HS : Hid ((w.alloc SB).heap[w.heap.size]? = some (.cells #[.slice aa a.length ca, .slice ab b.length cb, .int .i64 (My.hf a b), .slice (some ⟨gr, 0, none⟩) nA cap] 144)) := hid (by rw [hHV, ← hSB]; exact heap_alloc_new w _)
  have HK1 : Hid (Kept (fun j => j = gr) w (w.alloc SB)) := hid (Kept.of_below ((Below.refl _ _).alloc (Nat.le_refl _) _))
  have hs1 : (w.alloc SB).heap.size = w.heap.size + 1 := by simp
  obtain ⟨gs, hgsE⟩ : ∃ gs, gs = w.heap.size := ⟨_, rfl⟩
  rw [← hgsE] at HS hgs hs1 ⊢
  have HGE := hid hgsE
  clear hgsE hSB HRO hh0 hh1 HHF i1 i2 i3 i4
  have HG1 : Hid (Room (w.alloc SB) gr cap) := hid (HG.out.far ((Below.refl w.heap.size w).alloc (Nat.le_refl _) SB |>.block gr hgl))
  clear HG
  generalize w.alloc SB = w1 at HS HK1 hs1 HG1 ⊢
  obtain ⟨L0, hL0⟩ : ∃ L0 : Nat, L0 = min a.length b.length := ⟨_, rfl⟩
  obtain ⟨H0, hH0⟩ : ∃ H0 : Nat, H0 = max a.length b.length := ⟨_, rfl⟩
  have HLP : Hid (((L0 + 1 : Nat) : Int) = My.lowP a b (0 : Nat)) := hid (by unfold My.lowP My.c1; split <;> omega)
  have HHP : Hid (((H0 + 1 : Nat) : Int) = My.highP a b (0 : Nat)) := hid (by unfold My.highP My.c2; split <;> omega)
  obtain ⟨L1, hL1⟩ : ∃ L1 : Nat, L1 = L0 + 1 := ⟨_, rfl⟩
  obtain ⟨H1, hH1⟩ : ∃ H1 : Nat, H1 = H0 + 1 := ⟨_, rfl⟩
  obtain ⟨H2, hH2⟩ : ∃ H2 : Nat, H2 = H0 + 2 := ⟨_, rfl⟩
  obtain ⟨G, hG⟩ : ∃ G : Nat, G = b.length + 1 := ⟨_, rfl⟩
  obtain ⟨G1, hG1⟩ : ∃ G1 : Nat, G1 = b.length + 2 := ⟨_, rfl⟩
  obtain ⟨S, hS⟩ : ∃ S : Nat, S = a.length + 1 := ⟨_, rfl⟩
  rw [← hL1] at HLP
  rw [← hH1] at HHP
  have hle1 : L0 ≤ H2 := by omega
  have hle2 : H2 < nA := by have := HNN.out; omega
  have hle3 : H2 ≤ 2000002 := by omega
  have HE1 : Hid (S ≤ G → L1 = S ∧ H1 = G) := hid (fun h => by omega)
  have HE2 : Hid (¬ S ≤ G → L1 = G ∧ H1 = S) := hid (fun h => by omega)
  have HL1 := hid hL1
  have HH1 := hid hH1
  have HH2 := hid hH2
  have HGG := hid hG
  have HG2 := hid hG1
  have i1 : IntKind.i64.wrap ((a.length : Int) + 1) = (S : Int) := by rw [hS]; exact wrapOk (by omega) (by omega)
  have i2 : IntKind.i64.wrap ((b.length : Int) + 1) = (G : Int) := by rw [hG]; exact wrapOk (by omega) (by omega)
  have i3 : IntKind.i64.wrap ((L1 : Int) - 1) = (L0 : Int) := by rw [hL1]; exact (wrapOk (by omega) (by omega)).trans (by omega)
  have i4 : IntKind.i64.wrap ((H1 : Int) + 1) = (H2 : Int) := by rw [hH1, hH2]; exact wrapOk (by omega) (by omega)
  have i5 : IntKind.i64.wrap ((G : Int) + 1) = (G1 : Int) := by rw [hG, hG1]; exact (wrapOk (by omega) (by omega)).trans (by omega)
  clear hL0 hH0 hL1 hH1 hH2 hG hG1 hS
  go_upto_region 3 with fail
  go_cut [11, 12] (fun x y wc => x = .int .i64 (L1 : Int) ∧ y = .int .i64 (H1 : Int) ∧ wc = w1)
  case first =>
    by_cases hab : (S : Int) ≤ (G : Int)
    · obtain ⟨e1, e2⟩ := HE1.out (by omega)
      have HE1 := hid e1
      have HE2 := hid e2
      clear e1 e2
      go_wp2
      all_goals go_meet
      all_goals exact ⟨by first | (rw [HE1.out]; done) | (rw [HE1.out]; congr 1; omega), by first | (rw [HE2.out]; done) | (rw [HE2.out]; congr 1; omega), rfl⟩
    · obtain ⟨e1, e2⟩ := HE2.out (by omega)
      have HE1 := hid e1
      have HE2 := hid e2
      clear e1 e2
      go_wp2
      all_goals go_meet
      all_goals exact ⟨by first | (rw [HE1.out]; done) | (rw [HE1.out]; congr 1; omega), by first | (rw [HE2.out]; done) | (rw [HE2.out]; congr 1; omega), rfl⟩
  case rest =>
    obtain ⟨rfl, rfl, hwc⟩ := hcut
    subst wc
    have hgl1 : gs < w1.heap.size := by omega
    go_wp2_with fail
    go_loopw [13] (fun x wr => ∃ i : Nat, L0 ≤ i ∧ i ≤ H2 + 1 ∧ x = .int .i64 i ∧ Hid (Kept (fun j => j = gr) w1 wr) ∧ Hid (AtU wr gr cap t00 L0 i)) (fun x _ => H2 + 1 - (intOf x).toNat)
    case atStart => exact ⟨L0, Nat.le_refl _, by omega, rfl, hid (Kept.refl _ _), hid (HG1.out.atU _ _)⟩
    case round =>
      obtain ⟨i, hi1, hi2, rfl, HK, HU⟩ := hrel
      by_cases hi : i ≤ H2
      · obtain ⟨⟨x0, c0⟩, ⟨x1, c1⟩, cf⟩ := HU.out.cells (k := i) (by omega)
        have hsb := (HK.out.block gs hgl1 hgs).trans HS.out
        have s3 : wr.cell? ⟨gs, 3, none⟩ = some (.slice (some ⟨gr, 0, none⟩) nA cap) := cell_of_blk hsb 3
        have j0 : (i : Int) ≤ (H2 : Int) := by omega
        have j1 : (0 : Int) ≤ (i : Int) := by omega
        have j2 : (i : Int) < (nA : Int) := by omega
        have j3 : IntKind.i64.wrap ((i : Int) + 1) = (i : Int) + 1 := wrapOk (by omega) (by omega)
        have HN1 := hid (HU.out.set (by omega))
        have HK2 : Hid (Kept (fun j => j = gr) w1 ((wr.setCell ⟨gr, i * 2, none⟩ (.int .i64 (-1))).setCell ⟨gr, i * 2 + 1, none⟩ (.int .i64 0))) := hid ((HK.out.set rfl _).set rfl _)
        clear hsb
        go_wp2
        go_roundw
        case rel => exact ⟨i + 1, by omega, by omega, by push_cast; rfl, HK2, HN1⟩
        case measure => simp [intOf]; omega
      · obtain rfl : i = H2 + 1 := by omega
        have j0 : ¬ ((H2 + 1 : Nat) : Int) ≤ (H2 : Int) := by omega
        have HT := hid HU.out.all
        go_wp2_with fail
        obtain ⟨w5, hw5⟩ : ∃ w5, w5 = wr := ⟨_, rfl⟩
        subst hw5
        clear HU HG1 j0 hi1 hi2 hi i1 i2 i3 i4
        go_loopw [11, 12] (fun x y wr => ∃ (p f X Y : Nat) (t : Ats), x = .int .i64 X ∧ y = .int .i64 Y ∧ Hid ((X : Int) = My.lowP a b p) ∧ Hid ((Y : Int) = My.highP a b p) ∧ Hid (RdS a b p f t) ∧ Hid (Kept (fun j => j = gr) w1 wr) ∧ Hid (AtR wr gr cap t (X - 1) (Y + 1))) (fun x _ _ => (intOf x).toNat)
        case atStart => exact ⟨0, a.length, L1, H1, t00, rfl, rfl, HLP, HHP, hid (RdS.begin a b), HK, hid (by rw [HL1.out, HH1.out, show L0 + 1 - 1 = L0 by omega, show H0 + 1 + 1 = H2 by rw [HH2.out]]; exact HT.out)⟩
        case round =>
          clear HK HT
          obtain ⟨p, f, X, Y, t, rfl, rfl, HX, HY, HRS, HK, HT⟩ := hrel
          have hpa := HRS.out.pa
          have hpb := HRS.out.pb
          obtain ⟨q1, q2, q3⟩ := fine_rnd HRS.out.not (by omega) (by omega) (by omega) HRS.out.ent HRS.out.ends.1 HRS.out.ends.2
          have hRN : My.rnd a b p t = My.swU a b 1 (My.swD a b ((Y : Int) - (b.length + 1)).toNat (My.swU a b ((b.length : Int) + 1 - (X : Int)).toNat t X) Y) (b.length + 1) := by
            unfold My.rnd
            rw [← HX.out, ← HY.out]
          rw [← HX.out] at q1 q2 q3
          rw [← HY.out] at q2 q3
          have hx1 : 1 ≤ X ∧ X ≤ b.length + 1 := by
            have h := HX.out
            unfold My.lowP My.c1 at h
            split at h <;> omega
          have hy1 : b.length + 1 ≤ Y ∧ Y + 1 < nA ∧ Y ≤ 4000002 := by
            have h := HY.out
            have h2 := HNN.out
            unfold My.highP My.c2 at h
            split at h <;> omega
          have hnx := HRS.out.next
          rw [hRN] at hnx
          have eG : (G : Int) = (b.length : Int) + 1 := by rw [HGG.out]; omega
          rw [← eG] at hnx q1 q2 q3
          obtain ⟨n1, hn1⟩ : ∃ n1, n1 = ((G : Int) - (X : Int)).toNat := ⟨_, rfl⟩
          obtain ⟨n2, hn2⟩ : ∃ n2, n2 = ((Y : Int) - (G : Int)).toNat := ⟨_, rfl⟩
          rw [← hn1] at hnx q1 q2 q3
          rw [← hn2] at hnx q2 q3
          have hg1 := HGG.out
          have hg2 := HG2.out
          have he1 : (G : Int) = (X : Int) + (n1 : Int) := by clear hnx; omega
          have he2 : (G : Int) = (Y : Int) - (n2 : Int) := by clear hnx; omega
          have he3 : (G1 : Int) = (G : Int) + ((1 : Nat) : Int) := by clear hnx; omega
          have HC1 : Hid (∀ w2, Kept (fun j => j = gr) w1 w2 → AtR w2 gr cap t (X - 1) (Y + 1) → Calls Try.prog 93 #[.pointer (some ⟨gs, 0, none⟩), .int .i64 (X : Int), .int .i64 (G : Int), .int .i64 1] w2 fun e w' => e = .returned (.tuple #[]) ∧ Kept (fun j => j = gr) w2 w' ∧ AtR w' gr cap (My.swU a b n1 t X) (X - 1) (Y + 1)) :=
            hid (fun w2 hk hr => sweep_up n1 X G he1 ((hk.block gs hgl1 hgs).trans HS.out) hr (HA.out.kept (HK1.out.step hk (fun _ h => .inl h)) (fun g o h => HNA.out g o _ _ (by rw [h]))) (HB.out.kept (HK1.out.step hk (fun _ h => .inl h)) (fun g o h => HNB.out g o _ _ (by rw [h]))) HNA.out HNB.out hgs (by omega) (by omega) hla hlb (by omega) (by omega) (by omega) q1)
          generalize My.swU a b n1 t X = t1 at hnx q2 q3 HC1
          have HC2 : Hid (∀ w2, Kept (fun j => j = gr) w1 w2 → AtR w2 gr cap t1 (X - 1) (Y + 1) → Calls Try.prog 93 #[.pointer (some ⟨gs, 0, none⟩), .int .i64 (Y : Int), .int .i64 (G : Int), .int .i64 (-1)] w2 fun e w' => e = .returned (.tuple #[]) ∧ Kept (fun j => j = gr) w2 w' ∧ AtR w' gr cap (My.swD a b n2 t1 Y) (X - 1) (Y + 1)) :=
            hid (fun w2 hk hr => sweep_down n2 Y G he2 ((hk.block gs hgl1 hgs).trans HS.out) hr (HA.out.kept (HK1.out.step hk (fun _ h => .inl h)) (fun g o h => HNA.out g o _ _ (by rw [h]))) (HB.out.kept (HK1.out.step hk (fun _ h => .inl h)) (fun g o h => HNB.out g o _ _ (by rw [h]))) HNA.out HNB.out hgs (by omega) (by omega) hla hlb (by omega) (by omega) (by omega) q2)
          generalize My.swD a b n2 t1 Y = t2 at hnx q3 HC2
          have HC3 : Hid (∀ w2, Kept (fun j => j = gr) w1 w2 → AtR w2 gr cap t2 (X - 1) (Y + 1) → Calls Try.prog 93 #[.pointer (some ⟨gs, 0, none⟩), .int .i64 (G : Int), .int .i64 (G1 : Int), .int .i64 1] w2 fun e w' => e = .returned (.tuple #[]) ∧ Kept (fun j => j = gr) w2 w' ∧ AtR w' gr cap (My.swU a b 1 t2 G) (X - 1) (Y + 1)) :=
            hid (fun w2 hk hr => sweep_up 1 G G1 he3 ((hk.block gs hgl1 hgs).trans HS.out) hr (HA.out.kept (HK1.out.step hk (fun _ h => .inl h)) (fun g o h => HNA.out g o _ _ (by rw [h]))) (HB.out.kept (HK1.out.step hk (fun _ h => .inl h)) (fun g o h => HNB.out g o _ _ (by rw [h]))) HNA.out HNB.out hgs (by omega) (by omega) hla hlb (by omega) (by omega) (by omega) q3)
          generalize My.swU a b 1 t2 G = t3 at hnx HC3
          have HNX := hid hnx
          have HN1 := hid hn1
          have HN2 := hid hn2
          clear hnx q1 q2 q3 hRN hn1 hn2 eG hg1 hg2 HRS he1 he2 he3
          go_upto_region 9 with (go_at_call 93; refine (HC1.out _ HK.out HT.out).mono ?_; rintro e w2 ⟨rfl, k2, a2⟩; have HK2 := hid (HK.out.step k2 (fun _ h => .inl h)); have HT2 := hid a2; clear k2 a2)
          clear HK HT
          go_upto_region 10 with (go_at_call 93; refine (HC2.out _ HK2.out HT2.out).mono ?_; rintro e w3 ⟨rfl, k2, a2⟩; have HK3 := hid (HK2.out.step k2 (fun _ h => .inl h)); have HT3 := hid a2; clear k2 a2)
          clear HK2 HT2
          go_upto_region 11 with (go_at_call 93; refine (HC3.out _ HK3.out HT3.out).mono ?_; rintro e w4 ⟨rfl, k2, a2⟩; have HK4 := hid (HK3.out.step k2 (fun _ h => .inl h)); have HT4 := hid a2; clear k2 a2)
          clear HK3 HT3 HC1 HC2 HC3
          have hsb := (HK4.out.block gs hgl1 hgs).trans HS.out
          have hgG := HGG.out
          have s3 : w4.cell? ⟨gs, 3, none⟩ = some (.slice (some ⟨gr, 0, none⟩) nA cap) := cell_of_blk hsb 3
          obtain ⟨c0, c1⟩ := HT4.out.cells (k := G) (by omega) (by omega)
          have j1 : (0 : Int) ≤ (G : Int) := by omega
          have j2 : (G : Int) < (nA : Int) := by omega
          have HSB := hid hsb
          clear hsb hgG
          rcases hTG : t3 (G : Int) with ⟨ty, tov⟩
          rw [hTG] at c0 c1 HNX
          simp only at c0 c1
          by_cases hty : ty = (b.length : Int)
          · have hnx := HNX.out
            rcases hnx.symm with ⟨h1, _⟩ | ⟨_, h2, h3⟩
            · exact absurd hty h1
            simp only at h2
            rw [h2] at h3
            obtain ⟨g1, g2, g3, g4, _⟩ := h3
            simp only at g1 g2 g3 g4
            have hov : tov = My.crY a b tov - My.crX a b tov + a.length + 1 := by unfold My.crX; omega
            have HCR := hid (crossing_any HSB.out (HA.out.kept (HK1.out.step HK4.out (fun _ h => .inl h)) (fun g o h => HNA.out g o _ _ (by rw [h]))) hla hlb (ov := tov) (by omega) (by omega) g3)
            have HCE : Hid (C = (My.crX a b tov, My.crY a b tov)) := hid (HC.out.trans h2)
            have q0 : (ty == (b.length : Int)) = true := zeq hty
            clear h2 g1 g2 g3 g4 hov hty
            go_wp2_with (go_at_call 94; refine HCR.out.mono ?_; rintro e w6 ⟨rfl, hw6⟩; subst w6)
            go_ret2
            exact ⟨ret_two (by rw [HCE.out]; rfl) (by rw [HCE.out]; rfl), HK1.out.step HK4.out (fun _ h => .inl h), HT4.out.room⟩
          · have hnx := HNX.out
            rcases hnx with ⟨h1, _⟩ | ⟨_, h1, h2, f', _, h4⟩
            · exact absurd h1 hty
            have q0 : (ty == (b.length : Int)) = false := zne hty
            obtain ⟨X1, hX1⟩ : ∃ X1 : Nat, X1 = X - 1 := ⟨_, rfl⟩
            obtain ⟨X2, hX2⟩ : ∃ X2 : Nat, X2 = X - 2 := ⟨_, rfl⟩
            obtain ⟨Y1, hY1⟩ : ∃ Y1 : Nat, Y1 = Y + 1 := ⟨_, rfl⟩
            obtain ⟨Y2, hY2⟩ : ∃ Y2 : Nat, Y2 = Y + 2 := ⟨_, rfl⟩
            have hxx : 2 ≤ X := by
              have h := HX.out
              unfold My.lowP My.c1 at h
              split at h <;> omega
            have hyy : Y2 < nA := by
              have h := HY.out
              have h2 := HNN.out
              unfold My.highP My.c2 at h
              split at h <;> omega
            have HX' : Hid ((X1 : Int) = My.lowP a b ((p + 1 : Nat) : Int)) := hid (by
              have h := HX.out
              unfold My.lowP at h ⊢
              omega)
            have HY' : Hid ((Y1 : Int) = My.highP a b ((p + 1 : Nat) : Int)) := hid (by
              have h := HY.out
              unfold My.highP at h ⊢
              omega)
            have HRS : Hid (RdS a b (p + 1) f' (My.put (My.put t3 (X2 : Int) (-1, 0)) (Y2 : Int) (-1, 0))) := hid (by
              have e1 : (X2 : Int) = My.lowP a b p - 2 := by have h := HX.out; omega
              have e2 : (Y2 : Int) = My.highP a b p + 2 := by have h := HY.out; omega
              rw [e1, e2]
              exact h4)
            have i1 : IntKind.i64.wrap ((X : Int) - 1) = (X1 : Int) := (wrapOk (by omega) (by omega)).trans (by omega)
            have i2 : IntKind.i64.wrap ((Y : Int) + 1) = (Y1 : Int) := (wrapOk (by omega) (by omega)).trans (by omega)
            have i3 : IntKind.i64.wrap ((X1 : Int) - 1) = (X2 : Int) := (wrapOk (by omega) (by omega)).trans (by omega)
            have i4 : IntKind.i64.wrap ((Y1 : Int) + 1) = (Y2 : Int) := (wrapOk (by omega) (by omega)).trans (by omega)
            have hT := HT4.out
            rw [show X - 1 = X2 + 1 by omega, show Y + 1 = Y1 by omega] at hT
            obtain ⟨⟨v0, p0⟩, ⟨v1, p1⟩⟩ := hT.any (k := X2) (by omega)
            have hT2 := hT.set X2 (by omega) (-1, 0)
            obtain ⟨⟨v2, p2⟩, ⟨v3, p3⟩⟩ := hT2.any (k := Y2) (by omega)
            have pf : ∀ o, w4.frozen? ⟨gr, o, none⟩ = false := fun o => hT.frozen o
            have pf2 : ∀ o, ((w4.setCell ⟨gr, X2 * 2, none⟩ (.int .i64 (-1))).setCell ⟨gr, X2 * 2 + 1, none⟩ (.int .i64 0)).frozen? ⟨gr, o, none⟩ = false := fun o => hT2.frozen o
            have hW := hT.widen (by omega) (by omega)
            rw [show (Y1 : Int) + 1 = (Y2 : Int) by omega, show Y1 + 1 = Y2 by omega] at hW
            have HW := hid hW
            have HKW := hid ((((HK4.out.set (g := gr) (k := X2 * 2) rfl (.int .i64 (-1))).set (g := gr) (k := X2 * 2 + 1) rfl (.int .i64 0)).set (g := gr) (k := Y2 * 2) rfl (.int .i64 (-1))).set (g := gr) (k := Y2 * 2 + 1) rfl (.int .i64 0))
            have j3 : (0 : Int) ≤ (X2 : Int) := by omega
            have j4 : (X2 : Int) < (nA : Int) := by omega
            have j5 : (0 : Int) ≤ (Y2 : Int) := by omega
            have j6 : (Y2 : Int) < (nA : Int) := by omega
            have hXY : X2 + 2 < Y2 := by omega
            have HX1 := hid hX1
            have HX2 := hid hX2
            have HY1 := hid hY1
            have HY2 := hid hY2
            clear hT hT2 hW h1 h2 h4 hX1 hX2 hY1 hY2 hty HNX
            go_upto_region 15 with fail
            go_wp2
            go_roundw
            case rel => exact ⟨p + 1, f', X1, Y1, _, rfl, rfl, HX', HY', HRS, HKW, hid (by rw [show X1 - 1 = X2 by rw [HX1.out, HX2.out]; omega, show Y1 + 1 = Y2 by rw [HY1.out, HY2.out]]; exact HW.out)⟩
            case measure => simp [intOf]; have := HX1.out; omega
end Go.Proofs.Ytdilmgcdebobaaa
