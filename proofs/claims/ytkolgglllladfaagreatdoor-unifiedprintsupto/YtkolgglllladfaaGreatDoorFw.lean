/-
  Unified diffs: the program's writeHeader, Check, isPrinted (of names without a stamp).
-/
import Derived.Test.YtkolgglllladfaaGreatDoorFv
import Derived.Test.YtkolgglllladfaaGreatDoorFs
import Derived.Test.YtkolgglllladfaaGreatDoorXQ4
namespace Go.Proofs.YtkolgglllladfaaGreatDoor
open Go.RowKit
open Hu (Rw Hk)

theorem quote_le (p : ByteArray) : (bB (Pq.quote p.data.toList)).size ≤ 4 * p.size + 2 := by
  rw [← dsize, bB_data, ← dsize p]
  exact Pq.quote_len _
set_option maxHeartbeats 1000000 in
set_option maxRecDepth 100000 in
theorem writeHeader_any {B b : Nat} {l : Un.Bs} {w : World} (mark p s : ByteArray) (hb : BfAt B b l w) (hB : B ≤ w.heap.size) (hl : l.length + mark.size + 4 * p.size + s.size + 10 ≤ 140737488355328) (hps : p.size ≤ 35184371999999) :
    Calls Tryz.prog 31 #[.pointer (some ⟨b, 0, none⟩), .string mark, .agg #[.string p, .string s]] w fun e w' => e = .returned (.tuple #[]) ∧ BfAt B b (l ++ (Un.nameT mark.data.toList (p.data.toList, s.data.toList) ++ [10])) w' ∧ Frm B b w w' := by
  have hbA := (Below.refl w.heap.size w).alloc (Nat.le_refl _) (.cells #[.string p, .string s] 23)
  have hkA := heap_alloc_new w (.cells #[.string p, .string s] 23)
  have H0 := hid (hb.below hbA)
  have F0 : Hid (Frm B b w _) := hid (Frm.of hbA hB)
  have K0 := hid hkA
  have HLT := hid hb.lt
  obtain ⟨G, hG⟩ : ∃ G, G = w.heap.size := ⟨_, rfl⟩
  have HGB : Hid (G ≠ b) := hid (by have := HLT.out.1; omega)
  have HQ := hid (fun w1 => Cx.quote_any p w1 hps)
  have hq := quote_le p
  have hdm := dsize mark
  have hds := dsize s
  obtain ⟨QP, hQP⟩ : ∃ QP, QP = Pq.quote p.data.toList := ⟨_, rfl⟩
  rw [← hQP] at HQ hq
  have hq2 : QP.length ≤ 4 * p.size + 2 := by rw [← dsize, bB_data] at hq; exact hq
  have HW10 := hid (fun (l1 : Un.Bs) w1 (h1 : BfAt B b l1 w1) (hl1 : l1.length + 1 ≤ 140737488355328) (hs : B ≤ w1.heap.size) => wb10 h1 hl1 hs)
  by_cases h0 : s.size = 0
  · have he := Cx.empty_yes s h0
    have HE : Hid (l ++ (Un.nameT mark.data.toList (p.data.toList, s.data.toList) ++ [10]) = l ++ mark.data.toList ++ QP ++ [10]) := hid (by
      have : s.data.toList = [] := List.length_eq_zero_iff.1 (by rw [dsize]; exact h0)
      unfold Un.nameT
      simp only
      rw [if_pos this, ← hQP]
      simp)
    rw [HE.out]
    clear hb hbA hkA HE h0 hQP hq
    go_enter Tryz.func31, Tryz.ntmps31
    go_wp2_with fail
    rw [← hG] at K0 ⊢
    clear hG
    generalize w.alloc (.cells #[.string p, .string s] 23) = w0 at H0 F0 K0 ⊢
    refine (ws_any mark H0.out (by omega) (Nat.le_trans hB F0.out.below.size)).mono ?_
    rintro e w1 ⟨rfl, hb1, hf1⟩
    have H1 := hid hb1
    have F1 := hid (F0.out.trans hf1)
    have K1 := hid (hf1.box K0.out HGB.out (by decide))
    have c0 : w1.cell? ⟨G, 0, none⟩ = some (.string p) := cell_of_blk K1.out 0
    clear hb1 hf1
    go_wp2_with fail
    refine (HQ.out w1).mono ?_
    rintro e w2 ⟨rfl, hq2'⟩
    have H2 := hid (H1.out.below hq2')
    have F2 := hid (F1.out.trans (Frm.of hq2' (Nat.le_trans hB F1.out.below.size)))
    have K2 := hid ((hq2'.block G (lt_of_heap K1.out)).trans K1.out)
    clear hq2' c0
    go_wp2_with fail
    refine (ws_any (bB QP) H2.out (by rw [← dsize, bB_data]; simp only [List.length_append]; omega) (Nat.le_trans hB F2.out.below.size)).mono ?_
    rintro e w3 ⟨rfl, hb3, hf3⟩
    have H3 := hid hb3
    rw [bB_data] at H3
    have F3 := hid (F2.out.trans hf3)
    have K3 := hid (hf3.box K2.out HGB.out (by decide))
    have c1 : w3.cell? ⟨G, 1, none⟩ = some (.string s) := cell_of_blk K3.out 1
    clear hb3 hf3
    go_wp2_with fail
    refine (HW10.out _ w3 H3.out (by simp only [List.length_append]; omega) (Nat.le_trans hB F3.out.below.size)).mono ?_
    rintro e w4 ⟨rfl, hb4, hf4⟩
    have H4 := hid hb4
    have F4 := hid (F3.out.trans hf4)
    clear hb4 hf4
    go_wp2_with fail
    exact bodyPost_end (v := .tuple #[]) (by simp [results, Tryz.results31, go_sem]) rfl ⟨rfl, H4.out, F4.out⟩
  · have he := Cx.empty_no s h0
    have HE : Hid (l ++ (Un.nameT mark.data.toList (p.data.toList, s.data.toList) ++ [10]) = l ++ mark.data.toList ++ QP ++ [9] ++ s.data.toList ++ [10]) := hid (by
      unfold Un.nameT
      simp only
      rw [if_neg (fun e => h0 (by rw [← dsize, e]; rfl)), ← hQP]
      simp)
    rw [HE.out]
    clear hb hbA hkA HE h0 hQP hq
    go_enter Tryz.func31, Tryz.ntmps31
    go_wp2_with fail
    rw [← hG] at K0 ⊢
    clear hG
    generalize w.alloc (.cells #[.string p, .string s] 23) = w0 at H0 F0 K0 ⊢
    refine (ws_any mark H0.out (by omega) (Nat.le_trans hB F0.out.below.size)).mono ?_
    rintro e w1 ⟨rfl, hb1, hf1⟩
    have H1 := hid hb1
    have F1 := hid (F0.out.trans hf1)
    have K1 := hid (hf1.box K0.out HGB.out (by decide))
    have c0 : w1.cell? ⟨G, 0, none⟩ = some (.string p) := cell_of_blk K1.out 0
    clear hb1 hf1
    go_wp2_with fail
    refine (HQ.out w1).mono ?_
    rintro e w2 ⟨rfl, hq2'⟩
    have H2 := hid (H1.out.below hq2')
    have F2 := hid (F1.out.trans (Frm.of hq2' (Nat.le_trans hB F1.out.below.size)))
    have K2 := hid ((hq2'.block G (lt_of_heap K1.out)).trans K1.out)
    clear hq2' c0
    go_wp2_with fail
    refine (ws_any (bB QP) H2.out (by rw [← dsize, bB_data]; simp only [List.length_append]; omega) (Nat.le_trans hB F2.out.below.size)).mono ?_
    rintro e w3 ⟨rfl, hb3, hf3⟩
    have H3 := hid hb3
    rw [bB_data] at H3
    have F3 := hid (F2.out.trans hf3)
    have K3 := hid (hf3.box K2.out HGB.out (by decide))
    have c1 : w3.cell? ⟨G, 1, none⟩ = some (.string s) := cell_of_blk K3.out 1
    clear hb3 hf3
    go_wp2_with fail
    refine (ws_any ⟨#[9]⟩ H3.out (by show _ + 1 ≤ _; simp only [List.length_append]; omega) (Nat.le_trans hB F3.out.below.size)).mono ?_
    rintro e w4 ⟨rfl, hb4, hf4⟩
    have H4 := hid hb4
    rw [show (ByteArray.mk #[9]).data.toList = [9] from rfl] at H4
    have F4 := hid (F3.out.trans hf4)
    have K4 := hid (hf4.box K3.out HGB.out (by decide))
    have d1 : w4.cell? ⟨G, 1, none⟩ = some (.string s) := cell_of_blk K4.out 1
    clear hb4 hf4
    go_wp2_with fail
    refine (ws_any s H4.out (by simp only [List.length_append, List.length_cons, List.length_nil]; omega) (Nat.le_trans hB F4.out.below.size)).mono ?_
    rintro e w5 ⟨rfl, hb5, hf5⟩
    have H5 := hid hb5
    have F5 := hid (F4.out.trans hf5)
    clear hb5 hf5
    go_wp2_with fail
    refine (HW10.out _ w5 H5.out (by simp only [List.length_append, List.length_cons, List.length_nil]; omega) (Nat.le_trans hB F5.out.below.size)).mono ?_
    rintro e w6 ⟨rfl, hb6, hf6⟩
    have H6 := hid hb6
    have F6 := hid (F5.out.trans hf6)
    clear hb6 hf6
    go_wp2_with fail
    exact bodyPost_end (v := .tuple #[]) (by simp [results, Tryz.results31, go_sem]) rfl ⟨rfl, H6.out, F6.out⟩
/-! ### what may be printed -/
theorem rdH_take {w : World} {a : Option Addr} {c : Nat} {l : List Hk} (h : RdH w (.slice a l.length c) l) {i : Nat} (hi : i ≤ l.length) : RdH w (.slice a i c) (l.take i) := by
  obtain ⟨p, h1, h2, h3⟩ := h
  have hlen : (l.take i).length = i := by rw [List.length_take]; omega
  refine ⟨p.take i, by rw [List.map_take, h1], ?_, fun q hq => h3 q (List.mem_of_mem_take hq)⟩
  rw [hlen]
  rcases h2 with ⟨h0, ha⟩ | ⟨b, o, c', hv, hc, hb, hX⟩
  · exact .inl ⟨by omega, a, c, by rw [show i = 0 by omega]⟩
  · cases hv
    refine .inr ⟨b, o, c, rfl, by omega, hb, fun j u hj => ?_⟩
    refine hX j u ?_
    have hpl : p.length = l.length := by rw [← h1, List.length_map]
    have hj2 : j < (hksC (p.take i)).length := (List.getElem?_eq_some_iff.1 hj).1
    have e : hksC p = hksC (p.take i) ++ hksC (p.drop i) := by rw [← hksC_append, List.take_append_drop]
    rw [e, List.getElem?_append_left hj2]
    exact hj
def chkN (l : List Hk) : Nat := if l.all Hu.vld then (if Un.ordU [] l then 0 else 112) else 100
theorem ordU_at : ∀ (l : List Hk) (acc : List Hk), Un.ordU acc l = true ↔ ∀ k h, l[k]? = some h → Un.okO (acc ++ l.take k) h = true
  | [], acc => by
    constructor
    · intro _ k h hk; simp at hk
    · intro _; rfl
  | g :: l, acc => by
    rw [Un.ordU, Bool.and_eq_true, ordU_at l (acc ++ [g])]
    constructor
    · rintro ⟨h1, h2⟩ k h hk
      cases k with
      | zero => simp at hk; subst hk; simpa using h1
      | succ k =>
        rw [List.getElem?_cons_succ] at hk
        have := h2 k h hk
        rw [List.take_succ_cons]
        simpa using this
    · intro h
      refine ⟨by simpa using h 0 g rfl, fun k q hq => ?_⟩
      have := h (k + 1) q (by rw [List.getElem?_cons_succ]; exact hq)
      rw [List.take_succ_cons] at this
      simpa using this
theorem all_upto {l : List Hk} {k : Nat} {x : Hk} (h : (l.take k).all Hu.vld = true) (hx : l[k]? = some x) (hv : Hu.vld x = true) : (l.take (k + 1)).all Hu.vld = true := by
  rw [List.take_add_one, hx, List.all_append, h]
  simp [hv]
set_option maxHeartbeats 4000000 in
set_option maxRecDepth 100000 in
theorem check_any {w : World} {v : Value} {l : List Hk} (hr : RdH w v l) (hl : l.length ≤ 5000000) (hz : ∀ h ∈ l, SzH h) :
    Calls Tryz.prog 13 #[v] w fun e w' => e = .returned (errV (chkN l)) ∧ Below w.heap.size w w' := by
  obtain ⟨va, vc, rfl⟩ := hr.shape
  have HR := hid hr
  have HZ := hid hz
  obtain ⟨n, hn⟩ : ∃ n, n = l.length := ⟨_, rfl⟩
  have HN := hid hn
  have HR2 : Hid (∀ w1, Below w.heap.size w w1 → RdH w1 (.slice va n vc) l) := hid (fun w1 hb => by rw [hn]; exact hr.below hb)
  rw [← hn] at hl ⊢
  clear hr hz hn HR
  go_enter Tryz.func13, Tryz.ntmps13
  go_wp2_with fail
  go_loopw [10] (fun ii wr => ∃ k : Nat, k ≤ n ∧ ii = .int .i64 k ∧ Hid ((l.take k).all Hu.vld = true) ∧ Hid (Below w.heap.size w wr)) (fun ii _ => n - (intOf ii).toNat)
  case atStart => exact ⟨0, Nat.zero_le _, rfl, hid rfl, hid (Below.refl _ _)⟩
  case round =>
    obtain ⟨k, hk, rfl, HA, HB⟩ := hrel
    by_cases hlt : k < n
    · obtain ⟨x, hx⟩ : ∃ x, l[k]? = some x := ⟨_, List.getElem?_eq_getElem (by have := HN.out; omega)⟩
      obtain ⟨b, o, u, rfl, hb, c0, c1, c2, c3, c4, c5, hu⟩ := rdH_at (HR2.out wr HB.out) hx
      obtain ⟨qa, qc, rfl⟩ := hu.shape
      have HX := hid hx
      have hsz := HZ.out x (List.mem_of_getElem? hx)
      have HV := hid (fun w1 (h1 : Below wr.heap.size wr w1) => hvalid_any (hu.below h1) hsz)
      unfold HkV at HV
      obtain ⟨xa, xn, xb, xm, xh, xr⟩ := x
      dsimp only at c0 c1 c2 c3 c4 c5 HV
      have i1 : (0 : Int) ≤ (k : Int) := by omega
      have i2 : (k : Int) < (n : Int) := by omega
      have i3 : IntKind.i64.wrap ((k : Int) + 1) = (k : Int) + 1 := wrapOk (by omega) (by omega)
      have hbN := (Below.refl wr.heap.size wr).alloc (Nat.le_refl _) (.cells #[.int .i64 xa, .int .i64 xn, .int .i64 xb, .int .i64 xm, .string xh, .slice qa xr.length qc] 37)
      have HV1 := hid (HV.out _ hbN)
      have HB1 := hid (HB.out.trans (hbN.mono HB.out.size))
      have hvv : ∀ bb, Hu.vld ⟨xa, xn, xb, xm, xh, xr⟩ = bb → vldN ⟨xa, xn, xb, xm, xh, xr⟩ = if bb then 0 else 100 := fun bb hb => by unfold vldN; rw [hb]
      clear hu hb hx hsz HV hbN
      cases hvd : Hu.vld ⟨xa, xn, xb, xm, xh, xr⟩ with
      | false =>
        rw [hvv _ hvd] at HV1
        have HE : Hid (chkN l = 100) := hid (by
          unfold chkN
          rw [if_neg]
          intro hall
          have := List.all_eq_true.1 hall _ (List.mem_of_getElem? HX.out)
          rw [hvd] at this
          cases this)
        have e1 : errV (if false = true then 0 else 100) = .iface 42 (.int .i64 100) := rfl
        rw [e1] at HV1
        clear hvv hvd e1
        go_wp2_with fail
        refine HV1.out.mono ?_
        rintro e w2 ⟨rfl, hb2⟩
        have HB2 := hid (HB1.out.trans (hb2.mono HB1.out.size))
        clear hb2
        go_wp2_with fail
        go_ret
        exact ⟨by rw [HE.out]; rfl, HB2.out⟩
      | true =>
        rw [hvv _ hvd] at HV1
        have HA2 := hid (all_upto HA.out HX.out hvd)
        have e1 : errV (if true = true then 0 else 100) = .nilIface := rfl
        rw [e1] at HV1
        clear hvv hvd e1
        go_wp2_with fail
        refine HV1.out.mono ?_
        rintro e w2 ⟨rfl, hb2⟩
        have HB2 := hid (HB1.out.trans (hb2.mono HB1.out.size))
        clear hb2
        go_wp2_with fail
        go_roundw
        case rel => exact ⟨k + 1, by omega, by go_num, HA2, HB2⟩
        case measure => simp [intOf]; omega
    · obtain rfl : k = n := by omega
      have HALL : Hid (l.all Hu.vld = true) := hid (by rw [← List.take_of_length_le (Nat.le_of_eq HN.out.symm)]; exact HA.out)
      have HSM : Hid (∀ h ∈ l, SmH h) := hid (fun h hh => vld_sm (List.all_eq_true.1 HALL.out h hh))
      clear HA
      go_wp2_with fail
      obtain ⟨wx, hwx⟩ : ∃ wx, wx = wr := ⟨_, rfl⟩
      rw [← hwx] at HB ⊢
      clear hwx wr
      go_loopw [22] (fun ii wr => ∃ j : Nat, j ≤ k ∧ ii = .int .i64 j ∧ Hid (∀ i h, i < j → l[i]? = some h → Un.okO (l.take i) h = true) ∧ Hid (Below w.heap.size w wr)) (fun ii _ => k - (intOf ii).toNat)
      case atStart => exact ⟨0, Nat.zero_le _, rfl, hid (fun i h hi => by omega), HB⟩
      case round =>
        obtain ⟨j, hj, rfl, HO, HB3⟩ := hrel
        by_cases hlt : j < k
        · obtain ⟨x, hx⟩ : ∃ x, l[j]? = some x := ⟨_, List.getElem?_eq_getElem (by have := HN.out; omega)⟩
          obtain ⟨b, o, u, rfl, hb, c0, c1, c2, c3, c4, c5, hu⟩ := rdH_at (HR2.out wr HB3.out) hx
          obtain ⟨qa, qc, rfl⟩ := hu.shape
          have HX := hid hx
          have hsm := HSM.out x (List.mem_of_getElem? hx)
          have hvc : k ≤ vc := by
            have h9 := HR2.out wr HB3.out
            obtain ⟨p, _, h8, _⟩ := h9
            rw [← HN.out] at h8
            exact rd_cap h8
          have HIO := hid (fun w1 (h1 : Below w.heap.size w w1) => inOrder_any (h := x) (ua := qa) (un := x.rows.length) (uc := qc) (rdH_take (by rw [← HN.out]; exact HR2.out w1 h1) (i := j) (by have := HN.out; omega)) (by rw [List.length_take]; omega) hsm (fun g hg => HSM.out g (List.mem_of_mem_take hg)))
          unfold HkV at HIO
          obtain ⟨xa, xn, xb, xm, xh, xr⟩ := x
          dsimp only at c0 c1 c2 c3 c4 c5 HIO
          have i1 : (0 : Int) ≤ (j : Int) := by omega
          have i2 : (j : Int) < (k : Int) := by omega
          have i3 : IntKind.i64.wrap ((j : Int) + 1) = (j : Int) + 1 := wrapOk (by omega) (by omega)
          have i4 : (j : Int) ≤ (vc : Int) := by omega
          have hbN := (Below.refl wr.heap.size wr).alloc (Nat.le_refl _) (.cells #[.int .i64 xa, .int .i64 xn, .int .i64 xb, .int .i64 xm, .string xh, .slice qa xr.length qc] 37)
          have hkN := heap_alloc_new wr (.cells #[.int .i64 xa, .int .i64 xn, .int .i64 xb, .int .i64 xm, .string xh, .slice qa xr.length qc] 37)
          have HB4 := hid (HB3.out.trans (hbN.mono HB3.out.size))
          have HN4 := hid hkN
          clear hu hb hx hsm hbN hkN hvc
          go_wp2_with fail
          obtain ⟨V, hV⟩ : ∃ V, V = wr.heap.size := ⟨_, rfl⟩
          rw [← hV] at HN4 ⊢
          generalize wr.alloc (.cells #[.int .i64 xa, .int .i64 xn, .int .i64 xb, .int .i64 xm, .string xh, .slice qa xr.length qc] 37) = w5 at HB4 HN4 ⊢
          clear hV c0 c1 c2 c3 c4 c5
          have c0 : w5.cell? ⟨V, 0, none⟩ = some (.int .i64 xa) := cell_of_blk HN4.out 0
          have c1 : w5.cell? ⟨V, 1, none⟩ = some (.int .i64 xn) := cell_of_blk HN4.out 1
          have c2 : w5.cell? ⟨V, 2, none⟩ = some (.int .i64 xb) := cell_of_blk HN4.out 2
          have c3 : w5.cell? ⟨V, 3, none⟩ = some (.int .i64 xm) := cell_of_blk HN4.out 3
          have c4 : w5.cell? ⟨V, 4, none⟩ = some (.string xh) := cell_of_blk HN4.out 4
          have c5 : w5.cell? ⟨V, 5, none⟩ = some (.slice qa xr.length qc) := cell_of_blk HN4.out 5
          refine wp_region_qtail 4 (by kernel_rfl) (by kernel_rfl) ?_
          simp only [List.take_succ_cons, List.take_zero, List.drop_succ_cons, List.drop_zero]
          repeat go_big_quiet_step (fail)
          refine wpQuiet_nil ?_
          have HB6 := hid (below_drewN HB4.out 1)
          generalize w5.drewN 1 = w6 at HB6 ⊢
          clear c0 c1 c2 c3 c4 c5 HN4 HB4
          go_wp2_with fail
          refine (HIO.out w6 HB6.out).mono ?_
          rintro e w7 ⟨rfl, hb7⟩
          have HB7 := hid (HB6.out.trans (hb7.mono HB6.out.size))
          clear hb7
          cases hok : Un.okO (l.take j) ⟨xa, xn, xb, xm, xh, xr⟩ with
          | false =>
            have HE : Hid (chkN l = 112) := hid (by
              unfold chkN
              rw [if_pos HALL.out, if_neg]
              intro ho
              have := (ordU_at l []).1 ho j _ HX.out
              rw [List.nil_append, hok] at this
              cases this)
            clear hok
            go_wp2_with fail
            go_ret
            exact ⟨by rw [HE.out]; rfl, HB7.out⟩
          | true =>
            have HO2 : Hid (∀ i h, i < j + 1 → l[i]? = some h → Un.okO (l.take i) h = true) := hid (fun i h hi hh => by
              rcases Nat.lt_or_ge i j with h9 | h9
              · exact HO.out i h h9 hh
              · obtain rfl : i = j := by omega
                rw [HX.out] at hh
                cases hh
                exact hok)
            clear hok
            go_wp2_with fail
            go_roundw
            case rel => exact ⟨j + 1, by omega, by go_num, HO2, HB7⟩
            case measure => simp [intOf]; omega
        · obtain rfl : j = k := by omega
          have HE : Hid (chkN l = 0) := hid (by
            unfold chkN
            rw [if_pos HALL.out, if_pos]
            refine (ordU_at l []).2 fun i h hh => ?_
            rw [List.nil_append]
            exact HO.out i h (by have := (List.getElem?_eq_some_iff.1 hh).1; have := HN.out; omega) hh)
          go_wp2_with fail
          go_ret
          exact ⟨by rw [HE.out]; rfl, HB3.out⟩
end Go.Proofs.YtkolgglllladfaaGreatDoor
