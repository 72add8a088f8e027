/-
  Hunks the other way round: plain, and what Reverse leans on.
-/
import Derived.Test.YtnamioihapnefaaGreatDoorUi
import Derived.Test.YtnamioihapnefaaGreatDoorUj
import Derived.Test.YtnamioihapnefaaGreatDoorMa
import Derived.Test.YtnamioihapnefaaGreatDoorMi
namespace Go.Proofs.YtnamioihapnefaaGreatDoor.Hu
def flp (r : Rw) : Rw := ⟨if r.k = 2 then 3 else if r.k = 3 then 2 else r.k, r.t⟩
def kin (k : Int) (l : List Rw) : List Rw := l.filter (fun r => r.k == k)
/-- rows with the old ones of each run ahead of its new ones, as the document goes through them -/
def srtD : List Rw → List Rw → List Rw
  | [], run => kin 2 run ++ kin 3 run
  | r :: l, run => if isC r then srtD l (run ++ [r]) else (kin 2 run ++ kin 3 run) ++ r :: srtD l []
/-- the rows of a run put in order -/
def upd (L : List Rw) (r : Nat × Nat) : List Rw := L.take r.1 ++ (srt2 (sub L r.1 r.2) ++ L.drop r.2)
def revH (h : Hk) : Hk := ⟨h.b, h.m, h.a, h.n, h.head, srtD (h.rows.map flp) []⟩
theorem upd_len {L : List Rw} {r : Nat × Nat} (h1 : r.1 ≤ r.2) (h2 : r.2 ≤ L.length) : (upd L r).length = L.length := by
  unfold upd
  rw [List.length_append, List.length_append, srt2_len, List.length_take, List.length_drop]
  unfold sub
  rw [List.length_take, List.length_drop]
  omega
theorem upd_far {L : List Rw} {r : Nat × Nat} {k : Nat} (h1 : r.1 ≤ r.2) (h2 : r.2 ≤ L.length) (hk : r.2 ≤ k) : (upd L r)[k]? = L[k]? := by
  have e1 : (L.take r.1 ++ srt2 (sub L r.1 r.2)).length = r.2 := by
    rw [List.length_append, srt2_len, List.length_take]
    unfold sub
    rw [List.length_take, List.length_drop]
    omega
  unfold upd
  rw [← List.append_assoc, List.getElem?_append_right (by omega), e1, List.getElem?_drop, show r.2 + (k - r.2) = k by omega]
theorem kin_srt {run : List Rw} (h : ∀ r ∈ run, isC r = true) : srt2 run = kin 2 run ++ kin 3 run := by
  unfold srt2 kin
  congr 1
  refine List.filter_congr (fun r hr => ?_)
  have := h r hr
  unfold isC at this
  simp at this
  rcases this with e | e <;> rw [e] <;> rfl
theorem upd_mid {P run l : List Rw} {f i : Nat} (hP : P.length = f) (hr : f + run.length = i) : upd (P ++ (run ++ l)) (f, i) = P ++ (srt2 run ++ l) := by
  unfold upd sub
  dsimp only
  rw [List.take_left' hP, List.drop_left' hP, show i - f = run.length by omega, List.take_left' rfl]
  congr 2
  rw [← List.append_assoc]
  exact List.drop_left' (by rw [List.length_append]; omega)
theorem fold_srtD : ∀ (l P run : List Rw) (i f : Nat), P.length = f → f + run.length = i → (∀ r ∈ run, isC r = true) → (runsR l i f).foldl upd (P ++ (run ++ l)) = P ++ srtD l run
  | [], P, run, i, f, hP, hr, hc => by
    rw [runsR, run1, srtD, ← kin_srt hc]
    split
    · rw [List.foldl_cons, List.foldl_nil, upd_mid hP hr, List.append_nil]
    · rename_i hf
      have : run = [] := List.length_eq_zero_iff.1 (by omega)
      rw [this]
      rfl
  | r :: l, P, run, i, f, hP, hr, hc => by
    rw [runsR, srtD]
    by_cases h : isC r = true
    · rw [if_pos h, if_pos h]
      have := fold_srtD l P (run ++ [r]) (i + 1) f hP (by rw [List.length_append, List.length_singleton]; omega) (fun q hq => by
        rcases List.mem_append.1 hq with hq | hq
        · exact hc q hq
        · simp at hq; subst hq; exact h)
      rw [List.append_assoc] at this
      exact this
    · rw [if_neg h, if_neg h, ← kin_srt hc, List.foldl_append]
      have e1 : (run1 f i).foldl upd (P ++ (run ++ r :: l)) = P ++ (srt2 run ++ r :: l) := by
        unfold run1
        split
        · rw [List.foldl_cons, List.foldl_nil, upd_mid hP hr]
        · rename_i hf
          have : run = [] := List.length_eq_zero_iff.1 (by omega)
          rw [this]
          rfl
      rw [e1]
      have := fold_srtD l (P ++ (srt2 run ++ [r])) [] (i + 1) (i + 1) (by rw [List.length_append, List.length_append, srt2_len, List.length_singleton]; omega) (by simp) (fun q hq => by cases hq)
      rw [List.nil_append] at this
      have e2 : P ++ (srt2 run ++ [r]) ++ l = P ++ (srt2 run ++ r :: l) := by simp
      rw [e2] at this
      rw [this]
      simp
theorem fold_all (l : List Rw) : (runsR l 0 0).foldl upd l = srtD l [] := by
  have := fold_srtD l [] [] 0 0 rfl rfl (fun q hq => by cases hq)
  simpa using this
theorem fold_len {N : Nat} : ∀ (d : List (Nat × Nat)) (L : List Rw), L.length = N → (∀ r ∈ d, r.1 ≤ r.2 ∧ r.2 ≤ N) → (d.foldl upd L).length = N
  | [], L, h, _ => h
  | r :: d, L, h, hd => by
    rw [List.foldl_cons]
    have := hd r (by simp)
    exact fold_len d (upd L r) ((upd_len this.1 (by omega)).trans h) (fun q hq => hd q (by simp [hq]))
theorem fold_far {N k : Nat} : ∀ (d : List (Nat × Nat)) (L : List Rw), L.length = N → (∀ r ∈ d, r.1 ≤ r.2 ∧ r.2 ≤ N) → (∀ r ∈ d, r.2 ≤ k) → (d.foldl upd L)[k]? = L[k]?
  | [], L, h, _, _ => rfl
  | r :: d, L, h, hd, hk => by
    rw [List.foldl_cons]
    have := hd r (by simp)
    rw [fold_far d (upd L r) ((upd_len this.1 (by omega)).trans h) (fun q hq => hd q (by simp [hq])) (fun q hq => hk q (by simp [hq])), upd_far this.1 (by omega) (hk r (by simp))]
theorem srtD_mem : ∀ (l run : List Rw) (r : Rw), r ∈ srtD l run → r ∈ run ∨ r ∈ l
  | [], run, r, h => by
    rw [srtD] at h
    unfold kin at h
    rcases List.mem_append.1 h with h | h <;> exact .inl (List.mem_filter.1 h).1
  | q :: l, run, r, h => by
    rw [srtD] at h
    split at h
    · rcases srtD_mem l (run ++ [q]) r h with h | h
      · rcases List.mem_append.1 h with h | h
        · exact .inl h
        · simp at h; subst h; exact .inr (by simp)
      · exact .inr (by simp [h])
    · rcases List.mem_append.1 h with h | h
      · unfold kin at h
        rcases List.mem_append.1 h with h | h <;> exact .inl (List.mem_filter.1 h).1
      · rcases List.mem_cons.1 h with h | h
        · exact .inr (by simp [h])
        · rcases srtD_mem l [] r h with h | h
          · cases h
          · exact .inr (by simp [h])
theorem srtD_len (l : List Rw) : (srtD l []).length = l.length := by
  rw [← fold_all]
  have hch := runs_chn l 0 0 (Nat.le_refl _)
  rw [Nat.zero_add] at hch
  exact fold_len _ l rfl (fun r hr => by have := chn_in hch r hr; omega)
end Go.Proofs.YtnamioihapnefaaGreatDoor.Hu
namespace Go.Proofs.YtnamioihapnefaaGreatDoor
open Go.RowKit
open Hu (Rw Hk)

theorem win_sub {w : World} {b : Nat} {C : List Value} {L : List Rw} {f t : Nat} (h : Win w b [] L C) (hft : f ≤ t) : Win w b (rwsC (L.take f)) (Hu.sub L f t) (rwsC (L.drop t) ++ C) := by
  obtain ⟨cur, h1, h2⟩ := h
  refine ⟨cur, h1, ?_⟩
  rw [h2, List.nil_append, ← List.append_assoc, ← List.append_assoc, ← rwsC_append, ← rwsC_append]
  congr 2
  unfold Hu.sub
  have e : (L.drop f).drop (t - f) = L.drop t := by rw [List.drop_drop]; congr 1; omega
  rw [List.append_assoc, ← e, List.take_append_drop, List.take_append_drop]
theorem win_upd {w : World} {b : Nat} {C : List Value} {L : List Rw} {f t : Nat} (h : Win w b (rwsC (L.take f)) (Hu.srt2 (Hu.sub L f t)) (rwsC (L.drop t) ++ C)) : Win w b [] (Hu.upd L (f, t)) C := by
  obtain ⟨cur, h1, h2⟩ := h
  refine ⟨cur, h1, ?_⟩
  rw [h2, List.nil_append]
  unfold Hu.upd
  rw [rwsC_append, rwsC_append]
  simp only [List.append_assoc]
theorem own_win {w : World} {B b n cap : Nat} {l : List Rw} (h : OwnW w B (.slice (some ⟨b, 0, none⟩) n cap) l) : ∃ C : List Value, Win w b [] l C ∧ n * 2 + C.length = cap * 2 ∧ n ≤ cap ∧ cap ≤ maxLen ∧ B ≤ b ∧ n = l.length := by
  obtain ⟨h1, ⟨hv, _⟩ | ⟨g, cap', cur, hv, hB, hh, hc, hm, hsz, htk⟩⟩ := h
  · cases hv
  · have hv2 : b = g ∧ n = l.length ∧ cap = cap' := by
      simp only [Value.slice.injEq, Option.some.injEq, Addr.mk.injEq, and_true] at hv
      exact hv
    obtain ⟨rfl, rfl, rfl⟩ := hv2
    refine ⟨cur.toList.drop (l.length * 2), ⟨cur, hh, ?_⟩, ?_, hc, hm, hB, rfl⟩
    · rw [List.nil_append, ← htk, List.take_append_drop]
    · have h5 : cur.toList.length = cap * 2 := by rw [← hsz]; exact Array.length_toList
      rw [List.length_drop, h5]
      omega
theorem win_own {w : World} {B b n cap : Nat} {l : List Rw} {C : List Value} (h : Win w b [] l C) (hC : n * 2 + C.length = cap * 2) (hc : n ≤ cap) (hm : cap ≤ maxLen) (hB : B ≤ b) (hn : n = l.length) : OwnW w B (.slice (some ⟨b, 0, none⟩) n cap) l := by
  obtain ⟨cur, h1, h2⟩ := h
  rw [List.nil_append] at h2
  subst hn
  refine ⟨rwsC_length l, .inr ⟨b, cap, cur, rfl, hB, h1, hc, hm, ?_, ?_⟩⟩
  · have h5 : cur.size = cur.toList.length := Array.length_toList.symm
    rw [h5, h2, List.length_append, rwsC_length]
    omega
  · rw [h2]
    exact List.take_left' (rwsC_length l)
/-- what Reverse's function keeps -/
structure RvI (l : List Rw) (n cap b rb : Nat) (C : List Value) (d : List (Nat × Nat)) (X : Nat → Prop) (w : World) : Prop where
  x : ∀ g, X g ↔ g = b
  rows : w.heap[rb]? = some (.cells #[.slice (some ⟨b, 0, none⟩) n cap] 27)
  win : Win w b [] (d.foldl Hu.upd l) C
set_option maxHeartbeats 1000000 in
set_option maxRecDepth 100000 in
theorem reverseF_any {w : World} {l : List Rw} {n cap b rb f t : Nat} {C : List Value} {d : List (Nat × Nat)} {X : Nat → Prop} (hI : RvI l n cap b rb C d X w) (hn : (d.foldl Hu.upd l).length = n) (hft : f < t) (ht : t ≤ n) (hc : n ≤ cap) (hnl : n < 5864062014800) :
    Calls Tryz.prog 65 #[spV (f, t), .pointer (some ⟨rb, 0, none⟩)] w fun e w' => e = .returned (.tuple #[]) ∧ Kept X w w' ∧ ∃ X', (∀ g, X' g → X g ∨ w.heap.size ≤ g) ∧ RvI l n cap b rb C (d ++ [(f, t)]) X' w' := by
  obtain ⟨ix, i1, i2⟩ := hI
  have hne : rb ≠ b := by
    obtain ⟨cur, h1, _⟩ := i2
    exact blk_ne i1 h1 (by decide)
  obtain ⟨L, hL⟩ : ∃ L, L = d.foldl Hu.upd l := ⟨_, rfl⟩
  rw [← hL] at i2 hn
  have hbn := (Below.refl w.heap.size w).alloc (Nat.le_refl _) (.cells #[.int .i64 f, .int .i64 t] 95)
  have j1 := (hbn.block rb (lt_of_heap i1)).trans i1
  have hW := win_sub (i2.keep (hbn.block b i2.lt)) (Nat.le_of_lt hft)
  have hsl : (Hu.sub L f t).length = t - f := by unfold Hu.sub; rw [List.length_take, List.length_drop]; omega
  have hAl : (rwsC (L.take f)).length = f * 2 := by rw [rwsC_length, List.length_take]; omega
  have hP := putOld_any (c := cap - f) hW (fun e => by rw [e] at hsl; simp at hsl; omega) (by omega) (by omega)
  rw [hsl, hAl] at hP
  have HP := hid hP
  have HI1 := hid i1
  have HI2 := hid i2
  have HX := hid ix
  have HL := hid hL
  have HBN := hid hbn
  have r0 : (w.alloc (.cells #[.int .i64 f, .int .i64 t] 95)).cell? ⟨rb, 0, none⟩ = some (.slice (some ⟨b, 0, none⟩) n cap) := cell_of_blk j1 0
  have s1 : (0 : Int) ≤ (f : Int) := by omega
  have s2 : (f : Int) ≤ (t : Int) := by omega
  have s3 : (t : Int) ≤ (cap : Int) := by omega
  have hcf : ¬ cap = f := by omega
  unfold spV
  dsimp only
  clear hbn j1 hW hsl hAl hP i1 i2 ix hL
  go_enter Tryz.func65, Tryz.ntmps65
  go_wp2_with fail
  refine HP.out.mono ?_
  rintro e w2 ⟨rfl, hK, hW2⟩
  have HK2 : Hid (Kept X w w2) := hid ⟨hK.os.trans HBN.out.os, hK.tape.trans HBN.out.tape, hK.output.trans HBN.out.output, Nat.le_trans HBN.out.size hK.size, fun g hg hx => (hK.block g (Nat.lt_of_lt_of_le hg HBN.out.size) (fun e => hx ((HX.out g).2 e))).trans (HBN.out.block g hg)⟩
  have HR2 := hid ((HK2.out.block rb (lt_of_heap HI1.out) (fun h => hne ((HX.out rb).1 h))).trans HI1.out)
  have HW2 := hid (win_upd hW2)
  clear hK hW2
  go_wp2_with fail
  exact bodyPost_end (v := .tuple #[]) (by simp [results, Tryz.results65]) rfl ⟨rfl, HK2.out, X, (fun g hg => .inl hg), HX.out, HR2.out, by rw [List.foldl_append, ← HL.out]; exact HW2.out⟩
theorem RvI.far {l : List Rw} {n cap b rb E : Nat} {C : List Value} {d : List (Nat × Nat)} {X : Nat → Prop} {w w2 : World} (hI : RvI l n cap b rb C d X w) (h1 : rb < E) (hf : Far E X w w2) : RvI l n cap b rb C d X w2 := by
  obtain ⟨ix, i1, i2⟩ := hI
  exact ⟨ix, (hf.block rb (lt_of_heap i1) (.inl h1)).trans i1, i2.keep (hf.block b i2.lt (.inr ((ix b).2 rfl)))⟩
theorem rv_takes {w6 : World} {l : List Rw} {n cap b rb B : Nat} {C : List Value} (hn : n = l.length) (hnl : n < 5864062014800) (hc : n ≤ cap) (hB : B ≤ b) (h1 : rb < w6.heap.size) :
    Takes 65 #[.pointer (some ⟨rb, 0, none⟩)] B w6.heap.size w6 (Hu.runsR l 0 0) (RvI l n cap b rb C) where
  ent := fun _ _ => by kernel_rfl
  far := fun d X w1 w2 hI hf => hI.far h1 hf
  ge := fun d X w1 hI g hg => by rw [(hI.x g).1 hg]; exact hB
  step := fun d X r w1 hI hb hrest => by
    obtain ⟨rest, hrs⟩ := hrest
    obtain ⟨f, t⟩ := r
    have hch := runs_chn l 0 0 (Nat.le_refl _)
    rw [Nat.zero_add] at hch
    have hall := chn_in hch
    rw [hrs] at hall
    have hr := hall (f, t) (by simp)
    dsimp only at hr
    have hlen : (d.foldl Hu.upd l).length = n := Hu.fold_len d l hn.symm (fun q hq => by have := hall q (by simp [hq]); omega)
    exact reverseF_any hI hlen hr.2.1 (by omega) hc hnl
end Go.Proofs.YtnamioihapnefaaGreatDoor
