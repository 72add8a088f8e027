/-
  Unified diffs: the program's hunks: all hunks that stand one behind the other.
-/
import Derived.Test.YtkolgglllladfaaGreatDoorFo
import Derived.Test.YtkolgglllladfaaGreatDoorGrJ3
namespace Go.Proofs.YtkolgglllladfaaGreatDoor
open Go.RowKit
open Hu (Rw Hk)

/-- how much a reader has left -/
def msr (R : Nat) (w : World) : Nat := match w.cell? ⟨R, 1, none⟩ with
  | some (.string x) => x.size
  | _ => 0
theorem msr_at {w : World} {R c : Nat} {x : ByteArray} (h : RdrAt w R c x) : msr R w = x.size := by
  unfold msr
  rw [show w.cell? ⟨R, 1, none⟩ = some (.string x) from cell_of_blk h 1]
theorem vld_sm {h : Hk} (hv : Hu.vld h = true) : SmH h := by
  unfold Hu.vld Hu.areR Hu.side Hu.headOk at hv
  simp only [Bool.and_eq_true, beq_iff_eq, decide_eq_true_eq] at hv
  obtain ⟨_, ⟨hn, ha1, ha2, _⟩, ⟨hm, hb1, hb2, _⟩, _⟩ := hv
  unfold SmH
  refine ⟨?_, ?_, ?_, ?_, ?_, ?_, ?_, ?_⟩ <;> omega
theorem begs_ne {x : ByteArray} (h : Un.begs (Un.nx x.data.toList) = true) : x.data.toList ≠ [] := by
  intro e
  rw [e] at h
  cases h
theorem rows_le : ∀ (n : Nat) (ls : List Un.Bs) (x y c : Nat) (rows : List (Int × Un.Bs)) (ls' : List Un.Bs) (c' M : Nat), ls.length ≤ n → (∀ z ∈ ls, z.length ≤ M) → Un.rowsP ls x y c = .ok rows ls' c' → rows.length ≤ ls.length ∧ ∀ r ∈ rows, r.2.length ≤ M
  | _, [], x, y, c, rows, ls', c', M, _, _, h => by
    rw [Un.rowsP] at h
    split at h
    · cases h; exact ⟨Nat.le_refl _, fun r hr => by cases hr⟩
    · cases h
  | n, [z], x, y, c, rows, ls', c', M, _, hM, h => by
    rw [Un.rowsP] at h
    split at h
    · split at h
      · cases h
      · cases h; exact ⟨Nat.zero_le _, fun r hr => by cases hr⟩
    · split at h
      · cases h
      · split at h
        · cases h
        · split at h
          · cases h
            refine ⟨Nat.le_refl _, fun r hr => ?_⟩
            rw [List.mem_singleton.1 hr]
            have := hM z List.mem_cons_self
            simp
            omega
          · cases h
  | 0, _ :: _ :: _, _, _, _, _, _, _, _, hn, _, _ => by simp at hn
  | n + 1, z :: z2 :: ls, x, y, c, rows, ls', c', M, hn, hM, h => by
    have hz := hM z List.mem_cons_self
    rw [Un.rowsP] at h
    split at h
    · split at h
      · cases h
      · cases h; exact ⟨Nat.zero_le _, fun r hr => by cases hr⟩
    · split at h
      · cases h
      · rename_i k j _
        split at h
        · cases h
        · rename_i n' m' _
          split at h
          · cases hr : Un.rowsP ls n' m' (c + 2) with
            | bad q => rw [hr] at h; cases h
            | ok r2 l2 c2 =>
              rw [hr] at h
              cases h
              have := rows_le n ls n' m' (c + 2) r2 ls' c' M (by simp at hn; omega) (fun q hq => hM q (List.mem_cons_of_mem _ (List.mem_cons_of_mem _ hq))) hr
              refine ⟨by simp; omega, fun r hr' => ?_⟩
              rcases List.mem_cons.1 hr' with rfl | hr'
              · have h1 := bare_le (z.drop j)
                simp only [List.length_drop] at h1
                simp only
                omega
              · exact this.2 r hr'
          · cases hr : Un.rowsP (z2 :: ls) n' m' (c + 1) with
            | bad q => rw [hr] at h; cases h
            | ok r2 l2 c2 =>
              rw [hr] at h
              cases h
              have := rows_le n (z2 :: ls) n' m' (c + 1) r2 ls' c' M (by simp at hn ⊢; omega) (fun q hq => hM q (List.mem_cons_of_mem _ hq)) hr
              refine ⟨by simp at this ⊢; omega, fun r hr' => ?_⟩
              rcases List.mem_cons.1 hr' with rfl | hr'
              · simp only [List.length_drop]; omega
              · exact this.2 r hr'
theorem headP_le {t h : Un.Bs} (e : Un.headP t = some h) : h.length ≤ t.length := by
  unfold Un.headP at e
  split at e
  · cases e; exact Nat.le_refl _
  · split at e
    · cases e; simp
    · cases e
theorem place_head {l : Un.Bs} {p : Un.Plc} (h : Un.placeP l = some p) : p.head.length ≤ l.length := by
  unfold Un.placeP at h
  split at h
  · cases h
  · rename_i s1 h1
    have e1 := Un.pre_some.1 h1
    split at h
    · cases h
    · rename_i f t hc
      have e2 : t.length ≤ (Un.cutS Un.mkM s1).2.1.length := (Un.cut_len hc).2
      have e3 : (Un.cutS Un.mkM s1).2.1.length ≤ s1.length := (Un.cut_len (f := (Un.cutS Un.mkM s1).2.2) rfl).2
      split at h
      · rename_i hd o q hh ho hq
        cases h
        have e4 := headP_le hh
        have e5 := congrArg List.length e1
        rw [List.length_append] at e5
        show hd.length ≤ _
        omega
      · cases h
/-- a hunk that was read is small -/
theorem read_sz {x : ByteArray} {p : Un.Plc} {rows : List (Int × Un.Bs)} {c c' : Nat} {ls' : List Un.Bs} (hs : x.size ≤ 4194304) (hp : Un.placeP (Un.bare (Un.nx x.data.toList)) = some p) (hr : Un.rowsP (Un.lns (Un.adv x.data.toList)) p.n p.m (c + 1) = .ok rows ls' c') : SzH (Un.mkHk p rows) := by
  have h1 := place_head hp
  have h2 := bare_le (Un.nx x.data.toList)
  have h3 := Un.nx_size x.data.toList
  have h4 := Un.adv_len x.data.toList
  rw [dsize] at h3 h4
  have h5 := Un.lns_len _ (Un.adv x.data.toList) (Nat.le_refl _)
  have h6 := rows_le _ _ _ _ _ _ _ _ ((Un.adv x.data.toList).length + 1) (Nat.le_refl _) (fun z hz => (Un.lns_line _ _ (Nat.le_refl _) z hz).2) hr
  unfold SzH Un.mkHk
  refine ⟨?_, ?_, ?_⟩
  · show (rows.map Un.toR).length < _
    rw [List.length_map]
    omega
  · intro r hr'
    obtain ⟨q, hq, rfl⟩ := List.mem_map.1 hr'
    have := h6.2 q hq
    show (bB q.2).size ≤ _
    rw [← dsize, bB_data]
    unfold maxLen
    omega
  · show (bB p.head).size ≤ _
    rw [← dsize, bB_data]
    unfold maxLen
    omega
/-- what hunks answers -/
def HunksAns (w w' : World) (R c c' : Nat) (x x' : ByteArray) (RES : Un.Pr) (e : Ending) : Prop :=
  RdrAt w' R c' x' ∧ KeptR R w w' ∧ c ≤ c' ∧ x'.data.toList = Un.advN (c' - c) x.data.toList ∧
    ((∃ k er : Nat, RES = .bad k er ∧ e = .returned (.tuple #[.slice none 0 0, .int .i64 k, .iface 42 (.int .i64 er)])) ∨
     ∃ hs v, RES = .ok hs c' ∧ e = .returned (.tuple #[v, .int .i64 0, .nilIface]) ∧ OwnH w' w.heap.size v hs ∧ (∀ h ∈ hs, SzH h) ∧ hs.length ≤ 5000000)
theorem OwnH.keptR {w w' : World} {R B : Nat} {v : Value} {l : List Hk} (h : OwnH w B v l) (hk : KeptR R w w') (hR : R < B) : OwnH w' B v l := by
  obtain ⟨p, h1, h2, h3⟩ := h
  exact ⟨p, h1, own_keptR h2 hk hR, fun q hq => own_keptR (h3 q hq) hk hR⟩
theorem KeptR.onward {R B : Nat} {w w1 w2 : World} (h : KeptR R w w1) (hb : Below B w1 w2) (hB : w.heap.size ≤ B) : KeptR R w w2 :=
  ⟨hb.os.trans h.os, hb.tape.trans h.tape, hb.output.trans h.output, Nat.le_trans h.size hb.size, fun g hg hx => (hb.block g (by omega)).trans (h.block g hg hx)⟩
theorem zero_hk : HkV ⟨0, 0, 0, 0, ⟨#[]⟩, []⟩ (.slice none 0 0) = .agg #[.int .i64 0, .int .i64 0, .int .i64 0, .int .i64 0, .string ⟨#[]⟩, .slice none 0 0] := rfl
set_option maxHeartbeats 8000000 in
set_option maxRecDepth 100000 in
theorem hunks_any {w : World} {R c fu : Nat} {x : ByteArray} (h : RdrAt w R c x) (hv : LibV w) (h5 : 5 ≤ R) (hs : x.size ≤ 4194304) (hc : c + x.size ≤ 4900000) (hfu : x.size < fu) :
    Calls Tryz.prog 80 #[.pointer (some ⟨R, 0, none⟩), .agg #[.string ⟨#[45, 45, 45, 32]⟩, .string ⟨#[43, 43, 43, 32]⟩, .func (.func 19) #[] #[], .func (.func 29) #[] #[], .func (.func 30) #[] #[]]] w fun e w' => ∃ c' x', HunksAns w w' R c c' x x' (Un.hunksF fu (Un.lns x.data.toList) c []) e := by
  have hR := h.lt
  have hbA := (Below.refl w.heap.size w).alloc (Nat.le_refl _) (.cells #[.string ⟨#[45, 45, 45, 32]⟩, .string ⟨#[43, 43, 43, 32]⟩, .func (.func 19) #[] #[], .func (.func 29) #[] #[], .func (.func 30) #[] #[]] 48)
  have hkA := heap_alloc_new w (.cells #[.string ⟨#[45, 45, 45, 32]⟩, .string ⟨#[43, 43, 43, 32]⟩, .func (.func 19) #[] #[], .func (.func 29) #[] #[], .func (.func 30) #[] #[]] 48)
  have HR0 := hid (h.below hbA)
  have HK0 : Hid (KeptR R w _) := hid (KeptR.of hbA)
  have HF0 := hid hkA
  have HV := hid hv
  obtain ⟨F, hF⟩ : ∃ F, F = w.heap.size := ⟨_, rfl⟩
  have HFW := hid hF
  clear h hbA hkA hv
  go_enter Tryz.func80, Tryz.ntmps80
  go_wp2_with fail
  rw [← hF] at HF0 ⊢
  clear hF
  generalize w.alloc (.cells #[.string ⟨#[45, 45, 45, 32]⟩, .string ⟨#[43, 43, 43, 32]⟩, .func (.func 19) #[] #[], .func (.func 29) #[] #[], .func (.func 30) #[] #[]] 48) = w0 at HR0 HK0 HF0 ⊢
  go_loopw [7] (fun vl wr => ∃ (c1 f1 : Nat) (x1 : ByteArray) (acc : List Hk), Hid (OwnH wr (F + 1) vl acc) ∧ Hid (RdrAt wr R c1 x1) ∧ Hid (KeptR R w wr) ∧ Hid (wr.heap[F]? = some (.cells #[.string ⟨#[45, 45, 45, 32]⟩, .string ⟨#[43, 43, 43, 32]⟩, .func (.func 19) #[] #[], .func (.func 29) #[] #[], .func (.func 30) #[] #[]] 48)) ∧ acc.length ≤ c1 ∧ Hid (c ≤ c1) ∧ c1 + x1.size ≤ 4900000 ∧ x1.size ≤ 4194304 ∧ Hid (x1.data.toList = Un.advN (c1 - c) x.data.toList) ∧ Hid (∀ h ∈ acc, SmH h ∧ SzH h) ∧ Hid (x1.size < f1 ∧ Un.hunksF f1 (Un.lns x1.data.toList) c1 acc = Un.hunksF fu (Un.lns x.data.toList) c [])) (fun _ wr => msr R wr)
  case atStart => exact ⟨c, fu, x, [], hid (OwnH.nil _ _), HR0, HK0, HF0, Nat.zero_le _, hid (Nat.le_refl _), hc, hs, hid (by rw [Nat.sub_self]; rfl), hid (fun h hh => by cases hh), hid ⟨hfu, rfl⟩⟩
  case round =>
    obtain ⟨c1, f1, x1, acc, HO, HR, HK, HF, hal, Hcc, hcx, hx1, HA, HS, HI⟩ := hrel
    clear HR0 HK0 HF0
    obtain ⟨va, vc, rfl⟩ := HO.out.shape
    have HN := hid (fun m => next_any (HR.out.drewN m) hx1)
    have HBG := hid (fun w1 => begins_any (nxB x1) w1)
    rw [nxB_data] at HBG
    have k3 : wr.cell? ⟨F, 3, none⟩ = some (.func (.func 29) #[] #[]) := cell_of_blk HF.out 3
    go_wp2_with fail
    go_quiet (first | (go_at_call 57; exact Calls.quiet_of_same (HN.out _)) | (go_at_call 29; exact Calls.quiet_of_same (HBG.out _)))
    have HR1 := hid (HR.out.drewN nq)
    have HK1 := hid (HK.out.drewN nq)
    have HF1 : Hid ((wr.drewN nq).heap[F]? = _) := hid HF.out
    have HO1 := hid (HO.out.stays (below_drewN (Below.refl wr.heap.size wr) nq))
    have HM1 : Hid (msr R wr = x1.size) := hid (msr_at HR.out)
    generalize wr.drewN nq = w1 at HR1 HK1 HF1 HO1 ⊢
    obtain ⟨f2, hf2⟩ : ∃ f2, f1 = f2 + 1 := ⟨f1 - 1, by have := HI.out.1; omega⟩
    have HI2 := hid (HI.out.2.symm.trans (by rw [hf2, Un.hunksF_step]))
    have HF2 : Hid (x1.size < f2 + 1) := hid (by have := HI.out.1; omega)
    clear HN HBG HO HR HK HF k3 HI hf2
    cases hbg : Un.begs (Un.nx x1.data.toList) with
    | false =>
      rw [hbg] at HI2
      have HRES : Hid (Un.hunksF fu (Un.lns x.data.toList) c [] = .fin c1 acc) := hid HI2.out
      clear hbg HI2
      rcases Nat.eq_zero_or_pos acc.length with h0 | h0
      · have e : acc = [] := List.length_eq_zero_iff.1 h0
        subst e
        have k0 : w1.cell? ⟨R, 0, none⟩ = some (.int .i64 c1) := cell_of_blk HR1.out 0
        clear h0
        go_wp2_with fail
        go_quiet (fail)
        have HR2 := hid (HR1.out.drewN nq)
        have HK2 := hid (HK1.out.drewN nq)
        go_wp2_with fail
        go_ret3
        exact ⟨c1, x1, HR2.out, HK2.out, Hcc.out, HA.out, .inl ⟨c1, 100, HRES.out, rfl⟩⟩
      · have i1 : ((acc.length : Int) == 0) = false := ine (by omega)
        have HNE : Hid (Un.Pr.fin c1 acc = .ok acc c1) := hid (by unfold Un.Pr.fin; rw [if_neg (fun e => by rw [e] at h0; simp at h0)])
        have hal2 : acc.length ≤ 5000000 := by omega
        clear h0
        go_wp2_with fail
        go_ret3
        exact ⟨c1, x1, HR1.out, HK1.out, Hcc.out, HA.out, .inr ⟨acc, _, HRES.out.trans HNE.out, rfl, HO1.out.mono (by have := HFW.out; omega), fun h hh => (HS.out h hh).2, hal2⟩⟩
    | true =>
      rw [hbg] at HI2
      simp only [if_true] at HI2
      have hne := begs_ne hbg
      have HRH := hid (readHunk_any HR1.out (HV.out.kept HK1.out h5) hx1 (by omega) hne)
      have k0 : w1.cell? ⟨R, 0, none⟩ = some (.int .i64 c1) := cell_of_blk HR1.out 0
      have k4 : w1.cell? ⟨F, 4, none⟩ = some (.func (.func 30) #[] #[]) := cell_of_blk HF1.out 4
      clear hbg hne
      go_wp2_with fail
      refine HRH.out.mono ?_
      rintro e w2 ⟨c2, x2, hr2, hk2, hc2, hcx2, hx2, ha2, hcase⟩
      have HR2 := hid hr2
      have HK2 := hid (HK1.out.trans hk2)
      have HF3 := hid ((hk2.block F (lt_of_heap HF1.out) (by have := HFW.out; omega)).trans HF1.out)
      have HO2 := hid (HO1.out.keptR hk2 (by have := HFW.out; omega))
      have HSZ : Hid (F + 1 ≤ w1.heap.size) := hid (lt_of_heap HF1.out)
      have HA2 : Hid (x2.data.toList = Un.advN (c2 - c) x.data.toList ∧ c ≤ c2) := hid ⟨by
        rw [ha2, HA.out, ← Un.advN_add]
        congr 1
        have := Hcc.out
        omega, by have := Hcc.out; omega⟩
      clear hr2 hk2 ha2 HRH k0 k4 HR1 HK1 HF1 HO1
      rcases hcase with ⟨hp, rfl, rfl⟩ | ⟨p, hp, hrw, rfl⟩ | ⟨p, rows, v, hp, hrw, rfl, hcl, hO2⟩
      · rw [hp] at HI2
        have HRES := hid HI2.out
        have HBN := hid ((Below.refl w2.heap.size w2).alloc (Nat.le_refl _) (.cells #[.int .i64 0, .int .i64 0, .int .i64 0, .int .i64 0, .string ⟨#[]⟩, .slice none 0 0] 37))
        clear HI2 hp
        go_wp2_with fail
        go_ret3
        exact ⟨c2, x2, HR2.out.below HBN.out, HK2.out.trans (KeptR.of HBN.out), HA2.out.2, HA2.out.1, .inl ⟨c2, 100, HRES.out, rfl⟩⟩
      · rw [hp] at HI2
        simp only at HI2
        rw [hrw] at HI2
        have HRES := hid HI2.out
        have HBN := hid ((Below.refl w2.heap.size w2).alloc (Nat.le_refl _) (.cells #[.int .i64 0, .int .i64 0, .int .i64 0, .int .i64 0, .string ⟨#[]⟩, .slice none 0 0] 37))
        clear HI2 hp hrw
        go_wp2_with fail
        go_ret3
        exact ⟨c2, x2, HR2.out.below HBN.out, HK2.out.trans (KeptR.of HBN.out), HA2.out.2, HA2.out.1, .inl ⟨c2, 111, HRES.out, rfl⟩⟩
      · have hsz := read_sz hx1 hp hrw
        rw [hp] at HI2
        simp only at HI2
        rw [hrw] at HI2
        simp only at HI2
        obtain ⟨H, hH⟩ : ∃ H, H = Un.mkHk p rows := ⟨_, rfl⟩
        have hO3 : OwnW w2 w1.heap.size v H.rows := by rw [hH]; exact hO2
        rw [← hH] at HI2 hsz ⊢
        clear hp hrw hO2 hH
        obtain ⟨av, cv, rfl⟩ := own_shape hO3
        have HOW := hid (own_mono hO3 HSZ.out)
        have hRW := own_rd hO3
        clear hO3
        have HVL := hid (fun w3 (hb : Below w2.heap.size w2 w3) => hvalid_any (hRW.below hb) hsz)
        have HIO := hid (fun w3 (hr : RdH w3 (.slice va acc.length vc) acc) (hsm : SmH H) => inOrder_any (ua := av) (un := H.rows.length) (uc := cv) hr (by omega) hsm (fun g hg => (HS.out g hg).1))
        have HSZH := hid hsz
        have hvv : ∀ b, Hu.vld H = b → vldN H = if b then 0 else 100 := fun b hb => by unfold vldN; rw [hb]
        have HSM : Hid (Hu.vld H = true → SmH H) := hid vld_sm
        have HHK : Hid (Hk.mk H.a H.n H.b H.m H.head H.rows = H) := hid rfl
        generalize hVD : Hu.vld H = VD at HI2 HSM
        have HVN := hid (hvv VD hVD)
        rw [HVN.out] at HVL
        clear hvv hsz hRW hVD HVN
        unfold HkV at HVL HIO ⊢
        obtain ⟨RL, hRL⟩ : ∃ RL, RL = H.rows.length := ⟨_, rfl⟩
        rw [← hRL] at HVL HIO ⊢
        have HRL := hid hRL
        obtain ⟨xa, hxa⟩ : ∃ z, z = H.a := ⟨_, rfl⟩
        obtain ⟨xn, hxn⟩ : ∃ z, z = H.n := ⟨_, rfl⟩
        obtain ⟨xb, hxb⟩ : ∃ z, z = H.b := ⟨_, rfl⟩
        obtain ⟨xm, hxm⟩ : ∃ z, z = H.m := ⟨_, rfl⟩
        obtain ⟨xh, hxh⟩ : ∃ z, z = H.head := ⟨_, rfl⟩
        rw [← hxa, ← hxn, ← hxb, ← hxm, ← hxh] at HVL HIO ⊢
        have HXX : Hid (xa = H.a ∧ xn = H.n ∧ xb = H.b ∧ xm = H.m ∧ xh = H.head) := hid ⟨hxa, hxn, hxb, hxm, hxh⟩
        clear hRL hxa hxn hxb hxm hxh
        have hbN := (Below.refl w2.heap.size w2).alloc (Nat.le_refl _) (.cells #[.int .i64 xa, .int .i64 xn, .int .i64 xb, .int .i64 xm, .string xh, .slice av RL cv] 37)
        have hkN := heap_alloc_new w2 (.cells #[.int .i64 xa, .int .i64 xn, .int .i64 xb, .int .i64 xm, .string xh, .slice av RL cv] 37)
        obtain ⟨V, hV⟩ : ∃ V, V = w2.heap.size := ⟨_, rfl⟩
        have HVW := hid hV
        rw [← hV] at hkN
        have HVL3 := hid (HVL.out _ hbN)
        have HR3 := hid (HR2.out.below hbN)
        have HK3 := hid (HK2.out.trans (KeptR.of hbN))
        have HF4 := hid ((hbN.block F (lt_of_heap HF3.out)).trans HF3.out)
        have HO3 := hid (HO2.out.stays hbN)
        have HOW3 := hid (own_stays HOW.out hbN)
        have HN3 := hid hkN
        have HW3 := hid hbN.size
        clear hbN hkN HVL HR2 HK2 HF3 HO2 HOW
        go_wp2_with fail
        rw [← hV]
        clear hV
        generalize w2.alloc (.cells #[.int .i64 xa, .int .i64 xn, .int .i64 xb, .int .i64 xm, .string xh, .slice av RL cv] 37) = w3 at HVL3 HR3 HK3 HF4 HO3 HOW3 HN3 HW3 ⊢
        refine HVL3.out.mono ?_
        rintro e w4 ⟨rfl, hb4⟩
        have HR4 := hid (HR3.out.below hb4)
        have HK4 := hid (HK3.out.trans (KeptR.of hb4))
        have HF5 := hid ((hb4.block F (lt_of_heap HF4.out)).trans HF4.out)
        have HO4 := hid (HO3.out.stays hb4)
        have HOW4 := hid (own_stays HOW3.out hb4)
        have HN4 := hid ((hb4.block V (lt_of_heap HN3.out)).trans HN3.out)
        clear hb4 HVL3 HR3 HK3 HF4 HO3 HOW3 HN3
        cases VD with
        | false =>
          simp only [Bool.false_eq_true, if_false] at HI2
          have HRES := hid HI2.out
          have e1 : errV (if false = true then 0 else 100) = .iface 42 (.int .i64 100) := rfl
          rw [e1]
          clear HI2 e1
          go_wp2_with fail
          go_ret3
          exact ⟨c2, x2, HR4.out, HK4.out, HA2.out.2, HA2.out.1, .inl ⟨c1, 100, HRES.out, rfl⟩⟩
        | true =>
          simp only [if_true] at HI2
          have e1 : errV (if true = true then 0 else 100) = .nilIface := rfl
          rw [e1]
          have HSMX := hid (HSM.out rfl)
          have HIO4 := hid (HIO.out w4 HO4.out.rd HSMX.out)
          generalize hOK : Un.okO acc H = OK at HI2 HIO4
          clear e1 HIO hOK
          have k0 : w4.cell? ⟨V, 0, none⟩ = some (.int .i64 xa) := cell_of_blk HN4.out 0
          have k1 : w4.cell? ⟨V, 1, none⟩ = some (.int .i64 xn) := cell_of_blk HN4.out 1
          have k2 : w4.cell? ⟨V, 2, none⟩ = some (.int .i64 xb) := cell_of_blk HN4.out 2
          have k3 : w4.cell? ⟨V, 3, none⟩ = some (.int .i64 xm) := cell_of_blk HN4.out 3
          have k4 : w4.cell? ⟨V, 4, none⟩ = some (.string xh) := cell_of_blk HN4.out 4
          have k5 : w4.cell? ⟨V, 5, none⟩ = some (.slice av RL cv) := cell_of_blk HN4.out 5
          go_wp2_with fail
          refine HIO4.out.mono ?_
          rintro e w5 ⟨rfl, hb5⟩
          have HR5 := hid (HR4.out.below hb5)
          have HK5 := hid (HK4.out.trans (KeptR.of hb5))
          have HF6 := hid ((hb5.block F (lt_of_heap HF5.out)).trans HF5.out)
          have HO5 := hid (HO4.out.stays hb5)
          have HOW5 := hid (own_stays HOW4.out hb5)
          have HN5 := hid ((hb5.block V (lt_of_heap HN4.out)).trans HN4.out)
          clear hb5 HIO4 HR4 HK4 HF5 HO4 HOW4 HN4 k0 k1 k2 k3 k4 k5
          cases OK with
          | false =>
            simp only [Bool.false_eq_true, if_false] at HI2
            have HRES := hid HI2.out
            clear HI2
            go_wp2_with fail
            go_ret3
            exact ⟨c2, x2, HR5.out, HK5.out, HA2.out.2, HA2.out.1, .inl ⟨c1, 112, HRES.out, rfl⟩⟩
          | true =>
            simp only [if_true] at HI2
            have hbN := (Below.refl w5.heap.size w5).alloc (Nat.le_refl _) (.cells #[.int .i64 xa, .int .i64 xn, .int .i64 xb, .int .i64 xm, .string xh, .slice av RL cv] 37)
            have hkN := heap_alloc_new w5 (.cells #[.int .i64 xa, .int .i64 xn, .int .i64 xb, .int .i64 xm, .string xh, .slice av RL cv] 37)
            have HR6 := hid (HR5.out.below hbN)
            have HK6 := hid (HK5.out.trans (KeptR.of hbN))
            have HF7 := hid ((hbN.block F (lt_of_heap HF6.out)).trans HF6.out)
            have HO6 := hid (HO5.out.stays hbN)
            have HOW6 := hid (own_stays HOW5.out hbN)
            have HN6 : Hid ((w5.alloc (.cells #[.int .i64 xa, .int .i64 xn, .int .i64 xb, .int .i64 xm, .string xh, .slice av RL cv] 37)).heap[w5.heap.size]? = some (.cells #[.int .i64 H.a, .int .i64 H.n, .int .i64 H.b, .int .i64 H.m, .string H.head, .slice av RL cv] 37)) := hid (by
              rw [hkN, HXX.out.1, HXX.out.2.1, HXX.out.2.2.1, HXX.out.2.2.2.1, HXX.out.2.2.2.2])
            have HOW7 : Hid (OwnW (w5.alloc (.cells #[.int .i64 xa, .int .i64 xn, .int .i64 xb, .int .i64 xm, .string xh, .slice av RL cv] 37)) (F + 1) (.slice av RL cv) H.rows) := hid (by
              have h := HOW6.out
              show World.ownsRow _ _ _ _ _ H.rows.length _
              rw [← HRL.out] at h ⊢
              exact h)
            have HFS : Hid (F + 1 ≤ (w5.alloc (.cells #[.int .i64 xa, .int .i64 xn, .int .i64 xb, .int .i64 xm, .string xh, .slice av RL cv] 37)).heap.size) := hid (lt_of_heap HF7.out)
            have hal3 : acc.length < 1954687338260 := by omega
            have HLEN : Hid ((acc ++ [H]).length ≤ c2) := hid (by rw [List.length_append]; simp; omega)
            have k0 : w5.cell? ⟨V, 0, none⟩ = some (.int .i64 xa) := cell_of_blk HN5.out 0
            have k1 : w5.cell? ⟨V, 1, none⟩ = some (.int .i64 xn) := cell_of_blk HN5.out 1
            have k2 : w5.cell? ⟨V, 2, none⟩ = some (.int .i64 xb) := cell_of_blk HN5.out 2
            have k3 : w5.cell? ⟨V, 3, none⟩ = some (.int .i64 xm) := cell_of_blk HN5.out 3
            have k4 : w5.cell? ⟨V, 4, none⟩ = some (.string xh) := cell_of_blk HN5.out 4
            have k5 : w5.cell? ⟨V, 5, none⟩ = some (.slice av RL cv) := cell_of_blk HN5.out 5
            clear hbN hkN
            go_wp2_with (at_builtin; refine wpList_append_hk rfl _ _ rfl (F + 1) _ acc rfl HO6.out w5.heap.size H (.slice av RL cv) rfl HN6.out HOW7.out hal3 HFS.out ?_; intro v7 w7 hO7 hb7; have HO7 := hid hO7; have HR7 : Hid (RdrAt w7 R c2 x2) := hid ((hb7.block R (by have := HFW.out; omega)).trans HR6.out); have HF8 := hid ((hb7.block F (Nat.lt_succ_self F)).trans HF7.out); have HK7 := hid (KeptR.onward HK6.out hb7 (by have := HFW.out; omega)); clear hO7 hb7)
            go_roundw
            case rel => exact ⟨c2, f2, x2, acc ++ [H], HO7, HR7, HK7, HF8, HLEN.out, hid HA2.out.2, by omega, by omega, hid HA2.out.1, hid (fun h hh => by
                rcases List.mem_append.1 hh with hh | hh
                · exact HS.out h hh
                · rw [List.mem_singleton.1 hh]; exact ⟨HSMX.out, HSZH.out⟩), hid ⟨by have := HF2.out; omega, HI2.out.symm⟩⟩
            case measure => rw [msr_at HR7.out, HM1.out]; omega
end Go.Proofs.YtkolgglllladfaaGreatDoor
