/-
  The walk of the document's fits: the other pieces; the whole of it.
-/
import Derived.Test.YtfjhjhjdneihbaaGreatDoorI7
namespace Go.Proofs.YtfjhjhjdneihbaaGreatDoor
open Go.RowKit

theorem D_found {several : Bool} {t : List Pg.Pi} {ns : List (List UInt8)} (ht : t ≠ []) {j : Nat} (hj : j ≤ ns.length) (h : Pg.D several t (ns.drop j) = true) : Pg.D several (none :: t) ns = true := by
  cases t with
  | nil => exact absurd rfl ht
  | cons p r =>
    show ((List.range (ns.length + 1)).any fun i => Pg.D several (p :: r) (ns.drop i)) = true
    rw [List.any_eq_true]
    exact ⟨j, List.mem_range.2 (by omega), h⟩
theorem D_none {several : Bool} {t : List Pg.Pi} {ns : List (List UInt8)} (ht : t ≠ []) (h : ∀ j, j ≤ ns.length → Pg.D several t (ns.drop j) = false) : Pg.D several (none :: t) ns = false := by
  cases t with
  | nil => exact absurd rfl ht
  | cons p r =>
    show ((List.range (ns.length + 1)).any fun i => Pg.D several (p :: r) (ns.drop i)) = false
    rw [List.any_eq_false]
    intro j hj
    rw [h j (by have := List.mem_range.1 hj; omega)]
    exact Bool.false_ne_true
theorem rd_shape_cap {w : World} {u : Value} {xs : List ByteArray} (h : Rd w u xs) : ∃ a c, u = .slice a xs.length c ∧ xs.length ≤ c := by
  obtain ⟨a, c, rfl⟩ := h.shape
  rcases (rd_cap h).2 with h2 | h2
  · exact ⟨a, c, rfl, h2⟩
  · subst h2; exact ⟨a, c, rfl, Nat.zero_le _⟩

set_option maxHeartbeats 600000 in
set_option maxRecDepth 100000 in
theorem fits_end (several : Bool) (B : Nat) (w : World) (v u : Value) (ns : List (List UInt8)) (hv : DpRd w B v []) (hu : Rd w u (BL ns)) (hnl : ns.length ≤ 10000000) :
    Calls Tryz.prog 46 #[v, u, .bool several] w fun e w' => e = .returned (.bool (Pg.D several [] ns)) ∧ Below w.heap.size w w' := by
  obtain ⟨a, c, rfl⟩ : ∃ a c, v = .slice a 0 c := by
    rcases hv with ⟨_, h⟩ | ⟨b, o, c, h, _⟩
    · exact h
    · exact ⟨_, _, h⟩
  obtain ⟨a2, c2, rfl, hc2⟩ := rd_shape_cap hu
  rw [BL_length] at hc2 ⊢
  have HD : Hid (Pg.D several [] ns = ns.isEmpty) := hid (by simp [Pg.D])
  rw [HD.out]
  clear hu hv
  cases ns with
  | nil =>
    go_enter Tryz.func46, Tryz.ntmps46
    go_wp2
    go_ret
    exact ⟨rfl, Below.refl _ _⟩
  | cons n ns =>
    rw [List.length_cons] at hc2 hnl ⊢
    obtain ⟨M, hM⟩ : ∃ M, M = ns.length + 1 := ⟨_, rfl⟩
    rw [← hM] at hc2 hnl ⊢
    have hM0 : ¬ M = 0 := by omega
    have hM1 : ((M : Int) == 0) = false := beq_eq_false_iff_ne.2 (by omega)
    clear hM
    go_enter Tryz.func46, Tryz.ntmps46
    go_wp2
    go_ret
    exact ⟨rfl, Below.refl _ _⟩

set_option maxHeartbeats 600000 in
set_option maxRecDepth 100000 in
theorem fits_last (several : Bool) (B : Nat) (w : World) (v u : Value) (ns : List (List UInt8)) (hv : DpRd w B v [none]) (hu : Rd w u (BL ns)) (hnl : ns.length ≤ 10000000) :
    Calls Tryz.prog 46 #[v, u, .bool several] w fun e w' => e = .returned (.bool (Pg.D several [none] ns)) ∧ Below w.heap.size w w' := by
  rcases hv with ⟨h, _⟩ | ⟨b, o, c, rfl, hc, hlt, hX⟩
  · cases h
  obtain ⟨e1, x, e2, ⟨ax, nx, cx, rfl⟩, e3⟩ := hX 0 none rfl
  rw [Nat.zero_mul, Nat.add_zero] at e1
  have e1' : w.cell? ⟨b, o, none⟩ = some (.bool true) := e1
  obtain ⟨a2, c2, rfl, hc2⟩ := rd_shape_cap hu
  rw [BL_length] at hc2 ⊢
  have HD : Hid (Pg.D several [none] ns = (!ns.isEmpty || !several)) := hid (by simp [Pg.D])
  rw [HD.out]
  clear hu hX e1 e2 e3
  cases ns with
  | nil =>
    cases several with
    | true =>
      go_enter Tryz.func46, Tryz.ntmps46
      go_wp2
      go_ret
      exact ⟨rfl, Below.refl _ _⟩
    | false =>
      go_enter Tryz.func46, Tryz.ntmps46
      go_wp2
      go_ret
      exact ⟨rfl, Below.refl _ _⟩
  | cons n ns =>
    rw [List.length_cons] at hc2 hnl
    rw [show (n :: ns).length = ns.length + 1 from rfl, show [(none : Pg.Pi)].length = 1 from rfl]
    obtain ⟨M, hM⟩ : ∃ M, M = ns.length + 1 := ⟨_, rfl⟩
    rw [← hM] at hc2 hnl ⊢
    have hM0 : ¬ M = 0 := by omega
    have hMp : 0 < M := by omega
    have hMi : (0 : Int) < (M : Int) := by omega
    clear hM
    go_enter Tryz.func46, Tryz.ntmps46
    go_wp2
    go_ret
    exact ⟨rfl, Below.refl _ _⟩

set_option maxHeartbeats 600000 in
set_option maxRecDepth 100000 in
theorem fits_many (several : Bool) (t : List Pg.Pi) (ht : t ≠ []) (B : Nat) (w : World) (v u : Value) (ns : List (List UInt8)) (hv : DpRd w B v (none :: t)) (hu : Rd w u (BL ns)) (hsz : ∀ n ∈ ns, n.length ≤ 10000000) (hnl : ns.length ≤ 10000000) (hrl : t.length ≤ 100000000)
    (ih : ∀ (w : World) (v u : Value) (ns : List (List UInt8)), DpRd w B v t → Rd w u (BL ns) → (∀ n ∈ ns, n.length ≤ 10000000) → ns.length ≤ 10000000 → Calls Tryz.prog 46 #[v, u, .bool several] w fun e w' => e = .returned (.bool (Pg.D several t ns)) ∧ Below w.heap.size w w') :
    Calls Tryz.prog 46 #[v, u, .bool several] w fun e w' => e = .returned (.bool (Pg.D several (none :: t) ns)) ∧ Below w.heap.size w w' := by
  have HV := hid hv
  rcases hv with ⟨h, _⟩ | ⟨b, o, c, rfl, hc, hlt, hX⟩
  · cases h
  obtain ⟨e1, x, e2, ⟨ax, nx, cx, rfl⟩, e3⟩ := hX 0 none rfl
  rw [Nat.zero_mul, Nat.add_zero] at e1
  rw [List.length_cons] at hc HV ⊢
  have e1' : w.cell? ⟨b, o, none⟩ = some (.bool true) := e1
  obtain ⟨a2, c2, rfl, hc2⟩ := rd_shape_cap hu
  have HU := hid hu
  rw [BL_length] at hc2 HU ⊢
  have ht0 := List.length_pos_iff.2 ht
  have HT := hid (HV.out.tail.2 (by omega))
  have HDF : Hid (∀ j, j ≤ ns.length → Pg.D several t (ns.drop j) = true → Pg.D several (none :: t) ns = true) := hid (fun j hj h => D_found ht hj h)
  have HDN : Hid ((∀ j, j ≤ ns.length → Pg.D several t (ns.drop j) = false) → Pg.D several (none :: t) ns = false) := hid (fun h => D_none ht h)
  have HIH : Hid (∀ (W : World), Below w.heap.size w W → ∀ j, j ≤ ns.length → ∀ v1 u1, DpRd w B v1 t → Rd w u1 (BL (ns.drop j)) → Calls Tryz.prog 46 #[v1, u1, .bool several] W fun e w' => e = .returned (.bool (Pg.D several t (ns.drop j))) ∧ Below W.heap.size W w') := hid (fun W hW j hj v1 u1 h1 h2 => ih W v1 u1 _ (h1.later hW) (h2.below hW) (fun n hn => hsz n (List.mem_of_mem_drop hn)) (by rw [List.length_drop]; omega))
  have HRD : Hid (∀ j, j ≤ ns.length → Rd w (.slice (if c2 = j then a2 else a2.map (·.add j)) (ns.length - j) (c2 - j)) (BL (ns.drop j))) := hid (fun j hj => by
    have := rd_drop HU.out j (by rw [BL_length]; exact hj) hc2
    rw [BL_drop] at this
    exact this)
  obtain ⟨R, hR⟩ : ∃ R, R = Pg.D several (none :: t) ns := ⟨_, rfl⟩
  rw [← hR] at HDF HDN ⊢
  obtain ⟨f, hf⟩ : ∃ f : Nat → Bool, ∀ j, f j = Pg.D several t (ns.drop j) := ⟨_, fun _ => rfl⟩
  simp only [← hf] at HDF HDN HIH
  obtain ⟨L, hL⟩ : ∃ L, L = t.length + 1 := ⟨_, rfl⟩
  rw [← hL] at hc ⊢
  have hL0 : (0 : Int) < (L : Int) := by omega
  have hL0n : 0 < L := by omega
  have hLz : ((L : Int) == 0) = false := beq_eq_false_iff_ne.2 (by omega)
  have hLz1 : ((L : Int) == 1) = false := beq_eq_false_iff_ne.2 (by omega)
  have hL1n : ¬ L = 1 := by omega
  have hc1 : ¬ c = 1 := by omega
  have hLr : L - 1 = t.length := by omega
  have jc : (L : Int) ≤ (c : Int) := by omega
  have jL1 : (1 : Int) ≤ (L : Int) := by omega
  have jc2 : (ns.length : Int) ≤ (c2 : Int) := by omega
  clear hX e1 e2 e3 ih hsz hL HV hu HU ht hR hf ht0
  obtain ⟨M, hM⟩ : ∃ M, M = ns.length := ⟨_, rfl⟩
  rw [← hM] at hc2 hnl HDF HDN HIH HRD jc2 ⊢
  clear hM
  go_enter Tryz.func46, Tryz.ntmps46
  go_wp2
  clear e1'
  go_loopw [7] (fun i wr => ∃ j : Nat, j ≤ M + 1 ∧ i = .int .i64 j ∧ Hid (∀ k, k < j → f k = false) ∧ Hid (Below w.heap.size w wr)) (fun i _ => M + 1 - (intOf i).toNat)
  case atStart => exact ⟨0, Nat.zero_le _, rfl, hid (fun k hk => absurd hk (Nat.not_lt_zero _)), hid (Below.refl _ _)⟩
  case round =>
    obtain ⟨j, hj, rfl, HN, HB⟩ := hrel
    by_cases hlt : j ≤ M
    · have j1 : (0 : Int) ≤ (j : Int) := by omega
      have j2 : (j : Int) ≤ (M : Int) := by omega
      have j3 : IntKind.i64.wrap ((j : Int) + 1) = (j : Int) + 1 := by rw [IntKind.wrap_i64]; omega
      have HR1 := hid (HRD.out j hlt)
      have HI1 := hid (fun W hW v1 u1 h1 h2 => HIH.out W hW j hlt v1 u1 h1 h2)
      obtain ⟨dd, hdd⟩ : ∃ dd, dd = f j := ⟨_, rfl⟩
      rw [← hdd] at HI1
      have HDD := hid hdd
      clear hdd
      by_cases hc3 : c2 = j
      · rw [if_pos hc3] at HR1
        have hc4 : (c2 = j) ↔ True := ⟨fun _ => trivial, fun _ => hc3⟩
        clear hc3
        go_wp2
        refine wp_region_class (C := fun w' => Below w.heap.size w w') (by kernel_rfl) (by kernel_rfl) (below_drewN HB.out 1) ?_
        refine wpQuiet_step (fun K hK => ?_)
        go_simp
        refine ⟨_, fun _ _ => rfl, hK _ ?_⟩
        clear hK K
        refine wpQuiet_step (fun K hK => ?_)
        go_simp
        refine ⟨_, fun _ _ => rfl, hK _ ?_⟩
        clear hK K
        refine wpQuiet_step (fun K hK => ?_)
        go_simp
        refine ⟨_, fun _ _ => rfl, hK _ ?_⟩
        clear hK K
        refine wpQuiet_step (fun K hK => ?_)
        go_simp
        refine ⟨_, fun _ _ => rfl, hK _ ?_⟩
        clear hK K
        refine wpQuiet_step (fun K hK => ?_)
        go_simp
        refine ⟨_, fun _ _ => rfl, hK _ ?_⟩
        clear hK K
        refine wpQuiet_step (fun K hK => ?_)
        go_simp
        refine ⟨_, fun _ _ => rfl, hK _ ?_⟩
        clear hK K
        refine wpQuiet_step (fun K hK => ?_)
        rw [if_pos (by rfl)]
        refine ⟨.bool dd, fun w' hw' => ?_, hK _ ?_⟩
        · go_simp
          refine (HI1.out w' hw' _ _ HT.out HR1.out).mono ?_
          rintro r wn ⟨rfl, hbn⟩
          exact ⟨rfl, hw'.trans (hbn.mono hw'.size)⟩
        clear hK K
        refine wpQuiet_nil ?_
        intro w2 hw2
        have HB2 := hid hw2
        clear hw2
        cases dd with
        | true =>
          have HRR : Hid (R = true) := hid (HDF.out j hlt HDD.out.symm)
          go_wp2
          go_ret
          exact ⟨by rw [HRR.out]; rfl, HB2.out⟩
        | false =>
          have HN2 : Hid (∀ k, k < j + 1 → f k = false) := hid (fun k hk => by
            rcases Nat.lt_or_eq_of_le (Nat.lt_succ_iff.1 hk) with h | h
            · exact HN.out k h
            · rw [h]; exact HDD.out.symm)
          go_wp2
          exact ⟨⟨j + 1, by omega, by push_cast; rfl, HN2, HB2⟩, by simp [intOf]; omega⟩
      · rw [if_neg hc3] at HR1
        go_wp2
        refine wp_region_class (C := fun w' => Below w.heap.size w w') (by kernel_rfl) (by kernel_rfl) (below_drewN HB.out 1) ?_
        refine wpQuiet_step (fun K hK => ?_)
        go_simp
        refine ⟨_, fun _ _ => rfl, hK _ ?_⟩
        clear hK K
        refine wpQuiet_step (fun K hK => ?_)
        go_simp
        refine ⟨_, fun _ _ => rfl, hK _ ?_⟩
        clear hK K
        refine wpQuiet_step (fun K hK => ?_)
        go_simp
        refine ⟨_, fun _ _ => rfl, hK _ ?_⟩
        clear hK K
        refine wpQuiet_step (fun K hK => ?_)
        go_simp
        refine ⟨_, fun _ _ => rfl, hK _ ?_⟩
        clear hK K
        refine wpQuiet_step (fun K hK => ?_)
        go_simp
        refine ⟨_, fun _ _ => rfl, hK _ ?_⟩
        clear hK K
        refine wpQuiet_step (fun K hK => ?_)
        go_simp
        refine ⟨_, fun _ _ => rfl, hK _ ?_⟩
        clear hK K
        refine wpQuiet_step (fun K hK => ?_)
        rw [if_pos (by rfl)]
        refine ⟨.bool dd, fun w' hw' => ?_, hK _ ?_⟩
        · go_simp
          refine (HI1.out w' hw' _ _ HT.out HR1.out).mono ?_
          rintro r wn ⟨rfl, hbn⟩
          exact ⟨rfl, hw'.trans (hbn.mono hw'.size)⟩
        clear hK K
        refine wpQuiet_nil ?_
        intro w2 hw2
        have HB2 := hid hw2
        clear hw2
        cases dd with
        | true =>
          have HRR : Hid (R = true) := hid (HDF.out j hlt HDD.out.symm)
          go_wp2
          go_ret
          exact ⟨by rw [HRR.out]; rfl, HB2.out⟩
        | false =>
          have HN2 : Hid (∀ k, k < j + 1 → f k = false) := hid (fun k hk => by
            rcases Nat.lt_or_eq_of_le (Nat.lt_succ_iff.1 hk) with h | h
            · exact HN.out k h
            · rw [h]; exact HDD.out.symm)
          go_wp2
          exact ⟨⟨j + 1, by omega, by push_cast; rfl, HN2, HB2⟩, by simp [intOf]; omega⟩
    · have HRR : Hid (R = false) := hid (HDN.out (fun k hk => HN.out k (by omega)))
      have j2 : ¬ (j : Int) ≤ (M : Int) := by omega
      go_wp2
      go_ret
      exact ⟨by rw [HRR.out]; rfl, HB.out⟩

theorem fits_any (several : Bool) (B : Nat) : ∀ (ps : List Pg.Pi), ps.length ≤ 100000000 → ∀ (w : World) (v u : Value) (ns : List (List UInt8)), DpRd w B v ps → Rd w u (BL ns) → (∀ n ∈ ns, n.length ≤ 10000000) → ns.length ≤ 10000000 →
    Calls Tryz.prog 46 #[v, u, .bool several] w fun e w' => e = .returned (.bool (Pg.D several ps ns)) ∧ Below w.heap.size w w'
  | [], _, w, v, u, ns, hv, hu, _, hn => fits_end several B w v u ns hv hu hn
  | [none], _, w, v, u, ns, hv, hu, _, hn => fits_last several B w v u ns hv hu hn
  | some P :: r, h, w, v, u, ns, hv, hu, hs, hn => fits_one several P r B w v u ns hv hu hs hn (by simp at h; omega) (fits_any several B r (by simp at h; omega))
  | none :: p :: r, h, w, v, u, ns, hv, hu, hs, hn => fits_many several (p :: r) (by simp) B w v u ns hv hu hs hn (by simp at h ⊢; omega) (fits_any several B (p :: r) (by simp at h ⊢; omega))
end Go.Proofs.YtfjhjhjdneihbaaGreatDoor
