/-
  The walk of Pairs.
-/
import Derived.Test.YthgibnbpeopoaaaDoorC7
import Derived.Test.YthgibnbpeopoaaaDoorC4
import Derived.OwnWalk
namespace Go.Proofs.YthgibnbpeopoaaaDoor
open Go.RowKit
open Ed (Ch Run Pr)

theorem Tryd.infoPairT : (Tryd.prog.info? 62).map (fun i => (i.zero, i.size, i.bytes)) = some (some (.agg #[.int .i64 0, .int .i64 0]), 2, 16) := by kernel_rfl
abbrev OwnP (w : World) (B : Nat) (v : Value) (l : List Pr) : Prop := w.ownsRow B 62 2 v l.length (psC l)
/-- a variable in block g holds a row of pairs of the call's own -/
def PrAt (B g : Nat) (l : List Pr) (X : Nat → Prop) (w : World) : Prop :=
  ∃ v, w.heap[g]? = some (.cells #[v] 49) ∧ OwnP w B v l ∧ v.ownBlock ≠ some g ∧ B ≤ g ∧ X = fun k => k = g ∨ v.ownBlock = some k
theorem PrAt.later {B g : Nat} {l : List Pr} {X : Nat → Prop} {w w' : World} (h : PrAt B g l X w) (hb : Below w.heap.size w w') : PrAt B g l X w' := by
  obtain ⟨v, h1, h2, h3, h4, h5⟩ := h
  exact ⟨v, (hb.block g (lt_of_heap h1)).trans h1, own_stays h2 hb, h3, h4, h5⟩
theorem PrAt.in {B g : Nat} {l : List Pr} {X : Nat → Prop} {w : World} (h : PrAt B g l X w) : ∀ k, X k → B ≤ k ∧ k < w.heap.size := by
  obtain ⟨v, h1, h2, h3, h4, rfl⟩ := h
  intro k hk
  rcases hk with rfl | hk
  · exact ⟨h4, lt_of_heap h1⟩
  · exact ⟨own_ge h2 k hk, own_lt h2 k hk⟩
theorem rise_len {P : List Pr} {a b n m : Int} (h : Ed.rise P a b n m = true) (ha : a ≤ n) : (P.length : Int) ≤ n - a := by
  induction P generalizing a b with
  | nil => simp; omega
  | cons p P ih =>
    obtain ⟨hp, hr⟩ := Ed.rise_cons.1 h
    have := ih hr (by omega)
    rw [List.length_cons]
    push_cast
    omega
theorem exN_snoc (x y : Int) (i : Nat) : Ed.exN x y (i + 1) = Ed.exN x y i ++ [(x + i, y + i)] := by
  rw [Ed.exN_add]; rfl
/-- one more pair: what append leaves, stored -/
theorem PrAt.push {B g gg cap : Nat} {l : List Pr} {X : Nat → Prop} {p : Pr} {w0 w1 w2 : World} (h : PrAt B g l X w0) {v : Value} (hv : w0.heap[g]? = some (.cells #[v] 49)) (hb : Below w0.heap.size w0 w1) (hgrow : w1.grownBy w2 v.ownBlock) (hown : w2.ownsRow B 62 2 (.slice (some ⟨gg, 0, none⟩) (l.length + 1) cap) (l.length + 1) (psC l ++ [.int .i64 p.1, .int .i64 p.2])) (hat : v.ownBlock = some gg ∨ w0.heap.size ≤ gg) :
    (∃ X', PrAt B g (l ++ [p]) X' (w2.setCell ⟨g, 0, none⟩ (.slice (some ⟨gg, 0, none⟩) (l.length + 1) cap)) ∧ ∀ k, X' k → X k ∨ w0.heap.size ≤ k) ∧ Kept X w0 (w2.setCell ⟨g, 0, none⟩ (.slice (some ⟨gg, 0, none⟩) (l.length + 1) cap)) := by
  obtain ⟨v', h1, h2, h3, h4, rfl⟩ := h
  have e : v' = v := by
    rw [h1] at hv
    injection hv with hv
    injection hv with hv
    simpa using hv
  subst e
  have lg := lt_of_heap h1
  have hgg : gg ≠ g := by
    rcases hat with h | h
    · intro e; subst e; exact h3 h
    · omega
  have hg2 : w2.heap[g]? = some (.cells #[v'] 49) := (hgrow.block g (Nat.lt_of_lt_of_le lg hb.size) (Ne.symm h3)).trans ((hb.block g lg).trans h1)
  have hg3 := set_heap w2 g 0 _ _ (.slice (some ⟨gg, 0, none⟩) (l.length + 1) cap) hg2
  refine ⟨⟨_, ⟨.slice (some ⟨gg, 0, none⟩) (l.length + 1) cap, hg3, ?_, fun h => by cases h; exact hgg rfl, h4, rfl⟩, ?_⟩, ?_⟩
  · show World.ownsRow _ _ _ _ _ _ _
    rw [List.length_append, psC_append]
    exact own_far hown (fun k hk => by cases hk; exact set_other w2 hgg)
  · intro k hk
    rcases hk with rfl | hk
    · exact .inl (.inl rfl)
    · cases hk
      rcases hat with h | h
      · exact .inl (.inr h)
      · exact .inr h
  · refine ⟨?_, ?_, ?_, ?_, fun k hk hx => ?_⟩
    · exact (set_os _ _ _ _).trans (hgrow.os.trans hb.os)
    · exact (set_tape _ _ _ _).trans (hgrow.tape.trans hb.tape)
    · exact (set_output _ _ _ _).trans (hgrow.output.trans hb.output)
    · rw [set_size]; exact Nat.le_trans hb.size hgrow.size
    · have hkg : k ≠ g := fun e => hx (.inl e)
      have hkr : v'.ownBlock ≠ some k := fun e => hx (.inr e)
      rw [set_other w2 hkg, hgrow.block k (Nat.lt_of_lt_of_le hk hb.size) (Ne.symm hkr)]
      exact hb.block k hk
theorem Kept.step {X X' : Nat → Prop} {w w1 w2 : World} (h : Kept X w w1) (h' : Kept X' w1 w2) (hX : ∀ k, X' k → X k ∨ w.heap.size ≤ k) : Kept X w w2 :=
  ⟨h'.os.trans h.os, h'.tape.trans h.tape, h'.output.trans h.output, Nat.le_trans h.size h'.size, fun g hg hx => (h'.block g (Nat.lt_of_lt_of_le hg h.size) (fun hx' => by
    rcases hX g hx' with q | q
    · exact hx q
    · omega)).trans (h.block g hg hx)⟩

set_option maxHeartbeats 4000000 in
set_option maxRecDepth 100000 in
theorem pairsF_any {B g : Nat} {l : List Pr} {X : Nat → Prop} {r : Run} {w : World} (hI : PrAt B g l X w) (h1 : 0 ≤ r.1) (h2 : 0 ≤ r.2.1) (h3 : 0 < r.2.2) (h4 : r.1 ≤ 4194304) (h5 : r.2.1 ≤ 4194304) (h6 : r.2.2 ≤ 4194304) (hl : l.length ≤ 4194304) (hB : B ≤ w.heap.size) :
    Calls Tryd.prog 45 #[rV r, .pointer (some ⟨g, 0, none⟩)] w fun e w' => e = .returned (.tuple #[]) ∧ Kept X w w' ∧ ∃ X', PrAt B g (l ++ Ed.ex r) X' w' := by
  obtain ⟨x, y, n⟩ := r
  obtain ⟨n, rfl⟩ := Int.eq_ofNat_of_zero_le (Int.le_of_lt h3)
  obtain ⟨i0, hi0, hz0, hz1, hz2⟩ := info_parts Tryd.infoPairT
  dsimp only at h1 h2 h3 h4 h5 h6
  have hbA : Below w.heap.size w (w.alloc (.cells #[.int .i64 x, .int .i64 y, .int .i64 n] 68)) := (Below.refl _ _).alloc (Nat.le_refl _) _
  have hR := heap_alloc_new w (.cells #[.int .i64 x, .int .i64 y, .int .i64 n] 68)
  unfold rV
  have HI := hid hI
  have HX := hid hI.in
  have HBA := hid hbA
  have HRR := hid hR
  clear hI hbA hR
  have HIA := hid (HI.out.later HBA.out)
  have HKA : Hid (Kept X w (w.alloc (.cells #[.int .i64 x, .int .i64 y, .int .i64 n] 68))) := hid ⟨HBA.out.os, HBA.out.tape, HBA.out.output, HBA.out.size, fun k hk _ => HBA.out.block k hk⟩
  obtain ⟨wb, hwb⟩ : ∃ wb, wb = w.heap.size := ⟨_, rfl⟩
  have HWB := hid hwb
  go_enter Tryd.func45, Tryd.ntmps45
  go_wp2
  go_loopw [6] (fun i wr => ∃ (k : Nat) (X' : Nat → Prop), k ≤ n ∧ i = .int .i64 k ∧ Hid (PrAt B g (l ++ Ed.exN x y k) X' wr) ∧ Hid (∀ j, X' j → X j ∨ w.heap.size + 1 ≤ j) ∧ Hid (Kept X w wr) ∧ Hid (wr.heap[w.heap.size]? = some (.cells #[.int .i64 x, .int .i64 y, .int .i64 n] 68))) (fun i _ => n - (intOf i).toNat)
  case atStart => exact ⟨0, X, Nat.zero_le _, rfl, by show PrAt _ _ _ _ _; rw [show Ed.exN x y 0 = [] from rfl, List.append_nil]; exact HIA.out, fun j hj => .inl hj, HKA, HRR⟩
  case round =>
    obtain ⟨k, X', hk, rfl, HP, HXX, HK, HRb⟩ := hrel
    by_cases hlt : k < n
    · obtain ⟨v, hg, hO, hne, hBg, hX⟩ := HP.out
      have hgl := lt_of_heap hg
      have k0 : wr.cell? ⟨g, 0, none⟩ = some v := cell_of_blk hg 0
      have f0 : wr.frozen? ⟨g, 0, none⟩ = false := frozen_of_blk hg 0
      have r0 : wr.cell? ⟨w.heap.size, 0, none⟩ = some (.int .i64 x) := cell_of_blk HRb.out 0
      have r1 : wr.cell? ⟨w.heap.size, 1, none⟩ = some (.int .i64 y) := cell_of_blk HRb.out 1
      have hrl := lt_of_heap HRb.out
      have hlen : (l ++ Ed.exN x y k).length = l.length + k := by rw [List.length_append, Ed.exN_length]
      have hrr : v.ownBlock ≠ some w.heap.size := fun h => by
        have h' : X' w.heap.size := by rw [hX]; exact .inr h
        rcases HXX.out _ h' with q | q
        · have := (HX.out _ q).2; omega
        · omega
      have hgw : g ≠ w.heap.size := fun e => by
        have h' : X g := by
          have h'' : X' g := by rw [hX]; exact .inl rfl
          rcases HXX.out _ h'' with q | q
          · exact q
          · omega
        have := (HX.out _ h').2; omega
      have hbN := (Below.refl wr.heap.size wr).alloc (Nat.le_refl _) (.cells #[.int .i64 (x + k), .int .i64 (y + k)] 62)
      have HBN := hid hbN
      have hBw : B ≤ wr.heap.size := Nat.le_trans hB HK.out.size
      have hOa := own_stays hO hbN
      have HOa := hid hOa
      have HG := hid hg
      have HLEN := hid hlen
      have hkI : (k : Int) < (n : Int) := by omega
      clear hbN hOa hO
      go_wp2_with (at_builtin; refine wpList_append_lies _ rfl _ _ 49 rfl B 62 i0 _ 2 16 Tryd.underlying49 hi0 hz0 hz1 hz2 rfl (by decide) v (l ++ Ed.exN x y k).length (psC (l ++ Ed.exN x y k)) rfl HOa.out ⟨wr.heap.size, 0, none⟩ 1 1 [.int .i64 (x + k), .int .i64 (y + k)] rfl rfl (World.news_of_block (cs := #[.int .i64 (x + k), .int .i64 (y + k)]) (heap_alloc_new wr _)) (by simp [Value.oneCell']) (by decide) (by rw [hlen]; unfold maxLen; omega) (by rw [hlen]; omega) (Nat.le_trans hBw HBN.out.size) (wr.heap.size + 1) (by simp) ?_; intro gg cap w2 hown2 hgrow hat hlt2; have hc2 : w2.cell? ⟨g, 0, none⟩ = some v := (by rw [hgrow.cell_far _ (by simp; omega) (Ne.symm hne)]; exact (HBN.out.cell (p := ⟨g, 0, none⟩) hgl).trans k0); have hf2 : w2.frozen? ⟨g, 0, none⟩ = false := (by rw [hgrow.frozen_far _ (by simp; omega) (Ne.symm hne)]; exact frozen_of_blk ((HBN.out.block g hgl).trans HG.out) 0); have HOW := hid hown2; have HGR := hid hgrow; have HAT := hid hat; clear hown2 hgrow hat hlt2)
      obtain ⟨⟨X2, hP2, hX2⟩, hK2⟩ := HP.out.push (p := (x + k, y + k)) HG.out HBN.out HGR.out HOW.out (by
        rcases HAT.out with q | q
        · exact .inl q
        · right; omega)
      have HP2 : Hid (PrAt B g (l ++ Ed.exN x y (k + 1)) X2 (w2.setCell ⟨g, 0, none⟩ (.slice (some ⟨gg, 0, none⟩) ((l ++ Ed.exN x y k).length + 1) cap))) := hid (by rw [exN_snoc, ← List.append_assoc]; exact hP2)
      have HX2 : Hid (∀ j, X2 j → X j ∨ w.heap.size + 1 ≤ j) := hid (fun j hj => by
        rcases hX2 j hj with q | q
        · exact HXX.out j q
        · right; omega)
      have HK3 := hid (HK.out.step hK2 (fun j hj => by
        rcases HXX.out j hj with q | q
        · exact .inl q
        · right; omega))
      have HRb2 : Hid ((w2.setCell ⟨g, 0, none⟩ (.slice (some ⟨gg, 0, none⟩) ((l ++ Ed.exN x y k).length + 1) cap)).heap[w.heap.size]? = some (.cells #[.int .i64 x, .int .i64 y, .int .i64 n] 68)) := hid ((hK2.block w.heap.size hrl (fun h => by
        rw [hX] at h
        rcases h with q | q
        · exact hgw q.symm
        · exact hrr q)).trans HRb.out)
      clear hP2 hX2 hK2
      rw [HLEN.out] at HP2 HK3 HRb2
      go_roundw
      case rel => exact ⟨k + 1, X2, by omega, by go_num, HP2, HX2, HK3, HRb2⟩
      case measure => simp [intOf]; omega
    · have hkn : k = n := by omega
      have HE : Hid (PrAt B g (l ++ Ed.ex (x, y, (n : Int))) X' wr) := hid (by
        have h := HP.out
        rw [hkn] at h
        unfold Ed.ex
        simpa using h)
      clear hkn
      go_wp2
      exact bodyPost_end (v := .tuple #[]) (by simp [results, Tryd.results45]) rfl ⟨rfl, HK.out, X', HE.out⟩

theorem exs_snoc (d : List Run) (r : Run) : Ed.exs (d ++ [r]) = Ed.exs d ++ Ed.ex r := by
  rw [Ed.exs_append]; simp [Ed.exs]
set_option maxHeartbeats 4000000 in
set_option maxRecDepth 100000 in
theorem pairs_any {v : Value} {s : List Ch} {n m : Int} {w : World} (hr : RdC w v s) (hwf : ∀ c ∈ s, WfC c) (hV : Ed.Val s n m) :
    Calls Tryd.prog 23 #[v, .int .i64 n, .int .i64 m] w fun e w' => ∃ v', e = .returned (.tuple #[v', .nilIface]) ∧ OwnP w' w.heap.size v' (Ed.prs s n 0 0) ∧ Below w.heap.size w w' := by
  have hl := Val_len hV
  have hn := Ed.cnt_iff.1 hV.1
  have hm := Ed.cnt_iff.1 hV.2.1
  obtain ⟨i0, hi0, hz0, hz1, hz2⟩ := info_parts Tryd.infoPairT
  obtain ⟨a, c, rfl⟩ := hr.shape
  have HR := hid hr
  have HWF := hid hwf
  have HV := hid hV
  have HZ := hid (Ed.validN_zero.2 hV)
  have hpl := hV.len.1
  have hrl := rise_len hV.rise hn.1
  have HCO : Hid (∀ w1, RdC w1 (.slice a s.length c) s → Calls Tryd.prog 44 #[.slice a s.length c] w1 fun e w' => e = .returned (.tuple #[.int .i64 (Ed.goneS s), .int .i64 (Ed.comeS s)]) ∧ Below w1.heap.size w1 w') := hid (fun w1 h => by
    have := cost_any h hwf (by omega)
    rw [hV.cost] at this
    exact this)
  obtain ⟨hn0, hn1⟩ := hn
  obtain ⟨hm0, hm1⟩ := hm
  obtain ⟨L, hL⟩ : ∃ L, L = (Ed.prs s n 0 0).length := ⟨_, rfl⟩
  rw [← hL] at hpl hrl
  have HL := hid hL
  clear hr hwf hV hL
  generalize Ed.goneS s = G at HCO hpl
  generalize Ed.comeS s = G2 at HCO
  have hG : n - G = (L : Int) := by omega
  have HGG := hid hG
  have hG0 : 0 ≤ G ∨ G < 0 := by omega
  clear hG0 hG
  have hLn : L ≤ 4194304 := by omega
  go_enter Tryd.func23, Tryd.ntmps23
  go_wp2_with fail
  refine (valid_any HR.out HWF.out (by omega)).mono ?_
  rintro e w1 ⟨rfl, hb1⟩
  rw [HZ.out, errV_zero]
  have HB1 := hid hb1
  clear hb1
  go_wp2_with fail
  refine (HCO.out w1 (HR.out.below HB1.out)).mono ?_
  rintro e w2 ⟨rfl, hb2⟩
  have HB2 := hid (HB1.out.trans (hb2.mono HB1.out.size))
  clear hb2
  go_wp2_with (at_make; refine wpList_make_own _ rfl _ _ 49 rfl w2.heap.size 62 i0 _ 2 Tryd.underlying49 hi0 hz0 hz1 .i64 .i64 _ L rfl rfl HGG.out (by rw [hz2]; omega) (by unfold maxLen; omega) (Nat.le_refl _) ?_; intro w3 hown hgrow; have HO3 := hid hown; have hb3 := (Below.refl w2.heap.size w2).grown hgrow (Nat.le_refl _) (fun k hk => by cases hk); have HB3 := hid hb3; have HLT := hid (own_lt hown _ rfl); clear hown hgrow hb3)
  have hbW := (Below.refl w3.heap.size w3).alloc (Nat.le_refl _) (.cells #[.slice (some ⟨w2.heap.size, 0, none⟩) 0 L] 49)
  have hgW := heap_alloc_new w3 (.cells #[.slice (some ⟨w2.heap.size, 0, none⟩) 0 L] 49)
  generalize (w3.alloc (.cells #[.slice (some ⟨w2.heap.size, 0, none⟩) 0 L] 49)) = W at hbW hgW ⊢
  have hB3 : Below w.heap.size w w3 := HB2.out.trans (HB3.out.mono HB2.out.size)
  have hBW : Below w.heap.size w W := hB3.trans (hbW.mono hB3.size)
  have HI0 : Hid (PrAt w.heap.size w3.heap.size (Ed.exs []) (fun k => k = w3.heap.size ∨ (Value.slice (some ⟨w2.heap.size, 0, none⟩) 0 L).ownBlock = some k) W) := hid ⟨_, hgW, own_mono (own_stays HO3.out hbW) HB2.out.size, (fun h => by have h1 := HLT.out; have h2 : w2.heap.size = w3.heap.size := Option.some.inj h; omega), hB3.size, rfl⟩
  have HC := hid (eachRun_any (B := w.heap.size) 45 (fun _ _ => by kernel_rfl) #[.pointer (some ⟨w3.heap.size, 0, none⟩)] (fun d X w' => PrAt w.heap.size w3.heap.size (Ed.exs d) X w') (HR.out.below hBW) HR.out.under hBW.size HV.out (by omega) (fun d X wa wb hI hb => hI.later hb) (fun d X wa hI => hI.in) (X0 := fun k => k = w3.heap.size ∨ (Value.slice (some ⟨w2.heap.size, 0, none⟩) 0 L).ownBlock = some k) HI0.out
    (fun d X r wa hI hrb hba hrest => by
      obtain ⟨b1, b2, b3, b4, b5, b6⟩ := runB_le hrb hn1 hm1
      have hlen : (Ed.exs d).length ≤ 4194304 := by
        obtain ⟨rest, hrest⟩ := hrest
        have e : Ed.prs s n 0 0 = Ed.exs d ++ Ed.exs (r :: rest) := by unfold Ed.prs; rw [hrest, Ed.exs_append]
        have h2 := HL.out
        rw [e, List.length_append] at h2
        omega
      have := pairsF_any hI b1 b3 hrb.2.2.1 b2 b4 b6 hlen (Nat.le_trans hBW.size hba.size)
      rw [← exs_snoc] at this
      exact this))
  have HBW := hid hBW
  clear hbW hgW hB3 hBW HI0
  refine HC.out.mono ?_
  rintro e w4 ⟨rfl, hb4, X, vv, hg4, hO4, _, _, _⟩
  have k0 : w4.cell? ⟨w3.heap.size, 0, none⟩ = some vv := cell_of_blk hg4 0
  have HB4 := hid (HBW.out.trans hb4)
  have HO4 : Hid (OwnP w4 w.heap.size vv (Ed.prs s n 0 0)) := hid hO4
  clear hO4 hg4 hb4 HC
  go_wp2
  go_ret2
  exact ⟨_, rfl, HO4.out, HB4.out⟩
end Go.Proofs.YthgibnbpeopoaaaDoor
