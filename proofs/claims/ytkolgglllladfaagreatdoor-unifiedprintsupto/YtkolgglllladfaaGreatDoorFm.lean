/-
  Unified diffs: the program's header, firstLine, InOrder, fault, format.
-/
import Derived.Test.YtkolgglllladfaaGreatDoorFl
import Derived.Test.YtkolgglllladfaaGreatDoorXQ6
namespace Go.Proofs.YtkolgglllladfaaGreatDoor
open Go.RowKit
open Hu (Rw Hk)

theorem Tryz.sizeName : (Tryz.prog.info? 23).map (·.size) = some 2 := by kernel_rfl
def NmV (p s : ByteArray) : Value := .agg #[.string p, .string s]
theorem hdr_no {mark y : Un.Bs} (h : Lib.hasPrefix y mark = false) : Un.hdrP mark y = none := by
  unfold Un.hdrP Un.pre
  have h' : ¬ mark.isPrefixOf y = true := by rw [show mark.isPrefixOf y = false from h]; simp
  rw [if_neg h']
theorem hdr_yes {mark y : Un.Bs} (h : Lib.hasPrefix y mark = true) : Un.hdrP mark y = match Pq.unq (Un.bare (Lib.trimPrefix y mark)) with
    | none => none
    | some (a, r) => Un.stmp a r := by
  unfold Un.hdrP Un.pre Lib.trimPrefix
  have h' : mark.isPrefixOf y = true := h
  rw [if_pos h', if_pos h]
  rfl
theorem trim_le (l p : Un.Bs) : (Lib.trimPrefix l p).length ≤ l.length := by
  unfold Lib.trimPrefix
  split
  · simp
  · exact Nat.le_refl _
theorem bare_le (l : Un.Bs) : (Un.bare l).length ≤ l.length := by
  unfold Un.bare
  split
  · simp
  · exact Nat.le_refl _
/-- what header answers -/
def HeadAns (w w' : World) (R c : Nat) (x : ByteArray) (mark : Un.Bs) (e : Ending) : Prop :=
  KeptR R w w' ∧ ((Un.hdrP mark (Un.nx x.data.toList) = none ∧ RdrAt w' R c x ∧ e = .returned (.tuple #[.agg #[.string ⟨#[]⟩, .string ⟨#[]⟩], .bool false])) ∨
    ∃ o, Un.hdrP mark (Un.nx x.data.toList) = some o ∧ RdrAt w' R (c + 1) (advB x) ∧ e = .returned (.tuple #[.agg #[.string (bB o.1), .string (bB o.2)], .bool true]))
set_option maxHeartbeats 4000000 in
set_option maxRecDepth 100000 in
theorem header_any {w : World} {R c : Nat} {x mark : ByteArray} (h : RdrAt w R c x) (hs : x.size ≤ 4194304) (hc : c ≤ 8000000) :
    Calls Tryz.prog 79 #[.pointer (some ⟨R, 0, none⟩), .string mark] w fun e w' => HeadAns w w' R c x mark.data.toList e := by
  have hR := h.lt
  have hbA := (Below.refl w.heap.size w).alloc (Nat.le_refl _) (.cells #[.string ⟨#[]⟩, .string ⟨#[]⟩] 23)
  have hkA := heap_alloc_new w (.cells #[.string ⟨#[]⟩, .string ⟨#[]⟩] 23)
  have hsz := nxB_size x
  have HN := hid (fun w1 (h1 : RdrAt w1 R c x) => next_any h1 hs)
  have HC1 := hid (fun w1 => Tryz.strings_CutPrefix (nxB x) mark w1)
  rw [nxB_data] at HC1
  have hT : (bB (Lib.trimPrefix (Un.nx x.data.toList) mark.data.toList)).size ≤ (nxB x).size := by
    rw [← dsize, bB_data, ← dsize (nxB x), nxB_data]
    exact trim_le _ _
  have HB1 := hid (fun w1 => Cx.bare_any (bB (Lib.trimPrefix (Un.nx x.data.toList) mark.data.toList)) w1 (by unfold maxLen; omega))
  rw [bareB_eq, bB_data] at HB1
  have hU : (bB (Un.bare (Lib.trimPrefix (Un.nx x.data.toList) mark.data.toList))).size ≤ (nxB x).size := by
    have := bare_le (Lib.trimPrefix (Un.nx x.data.toList) mark.data.toList)
    rw [← dsize, bB_data]
    rw [← dsize, bB_data] at hT
    omega
  have HU := hid (fun w1 => Cx.unquote_any (bB (Un.bare (Lib.trimPrefix (Un.nx x.data.toList) mark.data.toList))) w1 (by omega))
  rw [bB_data] at HU
  have HPS := hid (fun w1 (h1 : RdrAt w1 R c x) => pass_any h1 hs (by omega))
  have HC2 := hid (fun r w1 => Tryz.strings_CutPrefix (bB r) ⟨#[9]⟩ w1)
  have HR0 := hid (h.below hbA)
  have HBA := hid hbA
  have HKA := hid hkA
  obtain ⟨G, hG⟩ : ∃ G, G = w.heap.size := ⟨_, rfl⟩
  have HGW := hid hG
  --CASES
  have hGR : R ≠ G := by omega
  cases hp : Lib.hasPrefix (Un.nx x.data.toList) mark.data.toList with
  | false =>
    have HH := hid (hdr_no hp)
    rw [hp] at HC1
    clear hp h hbA hkA HB1 HU HC2 HPS hU hT
    go_enter Tryz.func79, Tryz.ntmps79
    go_wp2_with fail
    rw [← hG] at HKA ⊢
    clear hG
    generalize w.alloc (.cells #[.string ⟨#[]⟩, .string ⟨#[]⟩] 23) = w0 at HR0 HBA HKA ⊢
    refine (HN.out w0 HR0.out).mono ?_
    rintro e w1 ⟨rfl, rfl⟩
    go_wp2_with fail
    refine (HC1.out _).mono ?_
    rintro e w2 ⟨rfl, rfl⟩
    go_wp2_with (guard_target =~ wpList _ _ _ (_ :: _) _ _; refine wpList_stA 23 #[.string ⟨#[]⟩, .string ⟨#[]⟩] rfl rfl HKA.out Tryz.sizeName rfl rfl rfl rfl ?_; intro w8 hk8 hkp8; have y0 : w8.cell? ⟨G, 0, none⟩ = some (.string ⟨#[]⟩) := cell_of_blk hk8 0; have y1 : w8.cell? ⟨G, 1, none⟩ = some (.string ⟨#[]⟩) := cell_of_blk hk8 1; have HKP := hid hkp8; clear hk8 hkp8)
    exact bodyPost_ret (v := .tuple #[.agg #[.string ⟨#[]⟩, .string ⟨#[]⟩], .bool false]) (by simp [results, Tryz.results79, go_sem, y0, y1]) rfl ⟨KeptR.new (KeptR.of HBA.out) HKP.out (Nat.le_of_eq HGW.out.symm), .inl ⟨HH.out, (HKP.out.block R HR0.out.lt hGR).trans HR0.out, rfl⟩⟩
  | true =>
    have HH := hid (hdr_yes hp)
    rw [hp] at HC1
    clear hp h hbA hkA
    generalize hTT : Lib.trimPrefix (Un.nx x.data.toList) mark.data.toList = T at HC1 HB1 HU HH hU hT
    have HT2 : Hid (bB T = ⟨T.toArray⟩) := hid rfl
    cases hu : Pq.unq (Un.bare T) with
    | none =>
      rw [hu] at HU HH
      have HC3 := hid (HC2.out [])
      clear HC2 hu hTT HPS
      go_enter Tryz.func79, Tryz.ntmps79
      go_wp2_with fail
      rw [← hG] at HKA ⊢
      clear hG
      generalize w.alloc (.cells #[.string ⟨#[]⟩, .string ⟨#[]⟩] 23) = w0 at HR0 HBA HKA ⊢
      refine (HN.out w0 HR0.out).mono ?_
      rintro e w1 ⟨rfl, rfl⟩
      go_wp2_with fail
      refine (HC1.out _).mono ?_
      rintro e w2 ⟨rfl, rfl⟩
      go_wp2_with fail
      refine (HB1.out _).mono ?_
      rintro e w3 ⟨rfl, rfl⟩
      go_wp2_with fail
      refine (HU.out _).mono ?_
      rintro e w4 ⟨rfl, hb4⟩
      have HR4 := hid (HR0.out.below hb4)
      have HK4 := hid ((hb4.block G (lt_of_heap HKA.out)).trans HKA.out)
      have HB4 := hid (HBA.out.trans (hb4.mono HBA.out.size))
      clear hb4
      simp only [Cx.tup]
      go_wp2_with fail
      refine (HC3.out _).mono ?_
      rintro e w5 ⟨rfl, rfl⟩
      go_wp2_with (guard_target =~ wpList _ _ _ (_ :: _) _ _; refine wpList_stA 23 #[.string ⟨#[]⟩, .string ⟨#[]⟩] rfl rfl HK4.out Tryz.sizeName rfl rfl rfl rfl ?_; intro w8 hk8 hkp8; have y0 : w8.cell? ⟨G, 0, none⟩ = some (.string ⟨#[]⟩) := cell_of_blk hk8 0; have y1 : w8.cell? ⟨G, 1, none⟩ = some (.string ⟨#[]⟩) := cell_of_blk hk8 1; have HKP := hid hkp8; clear hk8 hkp8)
      exact bodyPost_ret (v := .tuple #[.agg #[.string ⟨#[]⟩, .string ⟨#[]⟩], .bool false]) (by simp [results, Tryz.results79, go_sem, y0, y1]) rfl ⟨KeptR.new (KeptR.of HB4.out) HKP.out (Nat.le_of_eq HGW.out.symm), .inl ⟨HH.out, (HKP.out.block R HR4.out.lt hGR).trans HR4.out, rfl⟩⟩
    | some ar =>
      obtain ⟨a, r⟩ := ar
      rw [hu] at HU HH
      simp only at HH
      have HC3 := hid (HC2.out r)
      rw [bB_data, show (ByteArray.mk #[9]).data.toList = [9] from rfl] at HC3
      clear HC2 hu hTT
      cases r with
      | nil =>
        have he := Cx.empty_yes (bB []) rfl
        go_enter Tryz.func79, Tryz.ntmps79
        go_wp2_with fail
        rw [← hG] at HKA ⊢
        clear hG
        generalize w.alloc (.cells #[.string ⟨#[]⟩, .string ⟨#[]⟩] 23) = w0 at HR0 HBA HKA ⊢
        refine (HN.out w0 HR0.out).mono ?_
        rintro e w1 ⟨rfl, rfl⟩
        go_wp2_with fail
        refine (HC1.out _).mono ?_
        rintro e w2 ⟨rfl, rfl⟩
        go_wp2_with fail
        refine (HB1.out _).mono ?_
        rintro e w3 ⟨rfl, rfl⟩
        go_wp2_with fail
        refine (HU.out _).mono ?_
        rintro e w4 ⟨rfl, hb4⟩
        have HR4 := hid (HR0.out.below hb4)
        have HK4 := hid ((hb4.block G (lt_of_heap HKA.out)).trans HKA.out)
        have HB4 := hid (HBA.out.trans (hb4.mono HBA.out.size))
        clear hb4
        simp only [Cx.tup]
        rw [show (ByteArray.mk ([] : List UInt8).toArray) = bB ([] : List UInt8) from rfl]
        generalize bB ([] : List UInt8) = L at HC3 he ⊢
        go_wp2_with fail
        refine (HC3.out _).mono ?_
        rintro e w5 ⟨rfl, rfl⟩
        go_wp2_with fail
        refine (HPS.out _ HR4.out).mono ?_
        rintro e w6 ⟨rfl, hr6, hk6⟩
        have HR6 := hid hr6
        have HC6 := hid ((KeptR.of (R := R) HB4.out).trans hk6)
        have HK6 := hid ((hk6.block G (lt_of_heap HK4.out) hGR.symm).trans HK4.out)
        clear hr6 hk6
        go_wp2_with (guard_target =~ wpList _ _ _ (_ :: _) _ _; refine wpList_stA 23 #[.string (bB a), .string (bB [])] rfl rfl HK6.out Tryz.sizeName rfl rfl rfl rfl ?_; intro w8 hk8 hkp8; have y0 : w8.cell? ⟨G, 0, none⟩ = some (.string (bB a)) := cell_of_blk hk8 0; have y1 : w8.cell? ⟨G, 1, none⟩ = some (.string (bB [])) := cell_of_blk hk8 1; have HKP := hid hkp8; clear hk8 hkp8)
        exact bodyPost_ret (v := .tuple #[.agg #[.string (bB a), .string (bB [])], .bool true]) (by simp [results, Tryz.results79, go_sem, y0, y1]) rfl ⟨KeptR.new HC6.out HKP.out (Nat.le_of_eq HGW.out.symm), .inr ⟨_, HH.out, (HKP.out.block R HR6.out.lt hGR).trans HR6.out, rfl⟩⟩
      | cons d r =>
        have he := Cx.empty_no (bB (d :: r)) (by rw [← dsize]; simp [bB])
        by_cases h9 : d = 9
        · subst h9
          have e1 : Lib.hasPrefix (9 :: r) [9] = true := by simp [Lib.hasPrefix, List.isPrefixOf]
          have e2 : Lib.trimPrefix (9 :: r) [9] = r := by simp [Lib.trimPrefix, Lib.hasPrefix, List.isPrefixOf]
          rw [e1, e2] at HC3
          clear e1 e2
          go_enter Tryz.func79, Tryz.ntmps79
          go_wp2_with fail
          rw [← hG] at HKA ⊢
          clear hG
          generalize w.alloc (.cells #[.string ⟨#[]⟩, .string ⟨#[]⟩] 23) = w0 at HR0 HBA HKA ⊢
          refine (HN.out w0 HR0.out).mono ?_
          rintro e w1 ⟨rfl, rfl⟩
          go_wp2_with fail
          refine (HC1.out _).mono ?_
          rintro e w2 ⟨rfl, rfl⟩
          go_wp2_with fail
          refine (HB1.out _).mono ?_
          rintro e w3 ⟨rfl, rfl⟩
          go_wp2_with fail
          refine (HU.out _).mono ?_
          rintro e w4 ⟨rfl, hb4⟩
          have HR4 := hid (HR0.out.below hb4)
          have HK4 := hid ((hb4.block G (lt_of_heap HKA.out)).trans HKA.out)
          have HB4 := hid (HBA.out.trans (hb4.mono HBA.out.size))
          clear hb4
          simp only [Cx.tup]
          rw [show (ByteArray.mk (9 :: r).toArray) = bB (9 :: r) from rfl]
          generalize bB (9 :: r) = L at HC3 he ⊢
          go_wp2_with fail
          refine (HC3.out _).mono ?_
          rintro e w5 ⟨rfl, rfl⟩
          go_wp2_with fail
          refine (HPS.out _ HR4.out).mono ?_
          rintro e w6 ⟨rfl, hr6, hk6⟩
          have HR6 := hid hr6
          have HC6 := hid ((KeptR.of (R := R) HB4.out).trans hk6)
          have HK6 := hid ((hk6.block G (lt_of_heap HK4.out) hGR.symm).trans HK4.out)
          clear hr6 hk6
          go_wp2_with (guard_target =~ wpList _ _ _ (_ :: _) _ _; refine wpList_stA 23 #[.string (bB a), .string (bB r)] rfl rfl HK6.out Tryz.sizeName rfl rfl rfl rfl ?_; intro w8 hk8 hkp8; have y0 : w8.cell? ⟨G, 0, none⟩ = some (.string (bB a)) := cell_of_blk hk8 0; have y1 : w8.cell? ⟨G, 1, none⟩ = some (.string (bB r)) := cell_of_blk hk8 1; have HKP := hid hkp8; clear hk8 hkp8)
          exact bodyPost_ret (v := .tuple #[.agg #[.string (bB a), .string (bB r)], .bool true]) (by simp [results, Tryz.results79, go_sem, y0, y1]) rfl ⟨KeptR.new HC6.out HKP.out (Nat.le_of_eq HGW.out.symm), .inr ⟨_, HH.out, (HKP.out.block R HR6.out.lt hGR).trans HR6.out, rfl⟩⟩
        · have e1 : Lib.hasPrefix (d :: r) [9] = false := by
            have : ((9 : UInt8) == d) = false := beq_eq_false_iff_ne.2 (fun e => h9 e.symm)
            simp [Lib.hasPrefix, List.isPrefixOf, this]
          rw [e1] at HC3
          have HH2 : Hid (Un.hdrP mark.data.toList (Un.nx x.data.toList) = none) := hid (by rw [HH.out]; unfold Un.stmp; simp [h9])
          clear e1 h9 HH
          have HH := HH2
          clear HH2
          go_enter Tryz.func79, Tryz.ntmps79
          go_wp2_with fail
          rw [← hG] at HKA ⊢
          clear hG
          generalize w.alloc (.cells #[.string ⟨#[]⟩, .string ⟨#[]⟩] 23) = w0 at HR0 HBA HKA ⊢
          refine (HN.out w0 HR0.out).mono ?_
          rintro e w1 ⟨rfl, rfl⟩
          go_wp2_with fail
          refine (HC1.out _).mono ?_
          rintro e w2 ⟨rfl, rfl⟩
          go_wp2_with fail
          refine (HB1.out _).mono ?_
          rintro e w3 ⟨rfl, rfl⟩
          go_wp2_with fail
          refine (HU.out _).mono ?_
          rintro e w4 ⟨rfl, hb4⟩
          have HR4 := hid (HR0.out.below hb4)
          have HK4 := hid ((hb4.block G (lt_of_heap HKA.out)).trans HKA.out)
          have HB4 := hid (HBA.out.trans (hb4.mono HBA.out.size))
          clear hb4
          simp only [Cx.tup]
          rw [show (ByteArray.mk (d :: r).toArray) = bB (d :: r) from rfl]
          generalize bB (d :: r) = L at HC3 he ⊢
          go_wp2_with fail
          refine (HC3.out _).mono ?_
          rintro e w5 ⟨rfl, rfl⟩
          go_wp2_with (guard_target =~ wpList _ _ _ (_ :: _) _ _; refine wpList_stA 23 #[.string ⟨#[]⟩, .string ⟨#[]⟩] rfl rfl HK4.out Tryz.sizeName rfl rfl rfl rfl ?_; intro w8 hk8 hkp8; have y0 : w8.cell? ⟨G, 0, none⟩ = some (.string ⟨#[]⟩) := cell_of_blk hk8 0; have y1 : w8.cell? ⟨G, 1, none⟩ = some (.string ⟨#[]⟩) := cell_of_blk hk8 1; have HKP := hid hkp8; clear hk8 hkp8)
          exact bodyPost_ret (v := .tuple #[.agg #[.string ⟨#[]⟩, .string ⟨#[]⟩], .bool false]) (by simp [results, Tryz.results79, go_sem, y0, y1]) rfl ⟨KeptR.new (KeptR.of HB4.out) HKP.out (Nat.le_of_eq HGW.out.symm), .inl ⟨HH.out, (HKP.out.block R HR4.out.lt hGR).trans HR4.out, rfl⟩⟩
set_option maxHeartbeats 1000000 in
theorem firstLine_any (a n : Int) (w : World) (ha : a < 9223372036854775807) (ha2 : -9223372036854775808 ≤ a) (hn : 0 ≤ n) :
    Calls Tryz.prog 55 #[.int .i64 a, .int .i64 n] w fun e w' => e = .returned (.int .i64 (Hu.plc a n + 1)) ∧ w' = w := by
  by_cases h : n = 0
  · have e1 : (n == 0) = true := zeq h
    have HE : Hid (Hu.plc a n + 1 = a + 1) := hid (by unfold Hu.plc; rw [if_neg (by omega)])
    have i1 : IntKind.i64.wrap (a + 1) = a + 1 := wrapOk (by omega) (by omega)
    rw [HE.out]
    clear h
    go_enter Tryz.func55, Tryz.ntmps55
    go_wp2_with fail
    go_ret
    exact ⟨rfl, rfl⟩
  · have e1 : (n == 0) = false := zne h
    have HE : Hid (Hu.plc a n + 1 = a) := hid (by unfold Hu.plc; rw [if_pos (by omega)]; omega)
    rw [HE.out]
    clear h
    go_enter Tryz.func55, Tryz.ntmps55
    go_wp2_with fail
    go_ret
    exact ⟨rfl, rfl⟩
end Go.Proofs.YtkolgglllladfaaGreatDoor
