/-
  The document's Narrow.
-/
import Derived.Test.YtnamioihapnefaaGreatDoorMa
import Derived.Test.YtnamioihapnefaaGreatDoorGrKc
import Derived.Test.YtnamioihapnefaaGreatDoorMc
namespace Go.Proofs.YtnamioihapnefaaGreatDoor
open Go.RowKit
open Hu (Rw Hk)
open Ed (Ch)

/-- the pieces' spans, as the document goes through the rows -/
def nD (c N : Nat) : List Rw → Nat → Option Nat → Nat → List Sp
  | [], _, fr, last => [(fr.getD 0, last + min c (N - last))]
  | r :: l, i, fr, last => if r.k = 1 then nD c N l (i + 1) fr last else
    match fr with
    | none => nD c N l (i + 1) (some (i - min c i)) (i + 1)
    | some f => if last + 2 * c < i then (f, last + c) :: nD c N l (i + 1) (some (i - min c i)) (i + 1) else nD c N l (i + 1) (some f) (i + 1)
theorem nD_both {c N : Nat} {r : Rw} {l : List Rw} {i last : Nat} {fr : Option Nat} (h : r.k = 1) : nD c N (r :: l) i fr last = nD c N l (i + 1) fr last := by cases fr <;> rw [nD, if_pos h]
theorem nD_none {c N : Nat} {r : Rw} {l : List Rw} {i last : Nat} (h : ¬ r.k = 1) : nD c N (r :: l) i none last = nD c N l (i + 1) (some (i - min c i)) (i + 1) := by rw [nD, if_neg h]
theorem nD_some {c N : Nat} {r : Rw} {l : List Rw} {i last f : Nat} (h : ¬ r.k = 1) : nD c N (r :: l) i (some f) last = if last + 2 * c < i then (f, last + c) :: nD c N l (i + 1) (some (i - min c i)) (i + 1) else nD c N l (i + 1) (some f) (i + 1) := by rw [nD, if_neg h]
/-- the first one has the head -/
def headed (hd : ByteArray) : List Hk → List Hk
  | [] => []
  | h :: l => { h with head := hd } :: l
def narN (h : Hk) (ctx : Int) : Nat := if ctxOk ctx then (if Hu.vld h then 0 else 100) else 1
def narA (h : Hk) (ctx : Int) : List Hk := if narN h ctx = 0 then headed h.head ((nD ctx.toNat h.rows.length h.rows 0 none 0).map fun s => cutP h s.1 s.2) else []
/-- the first hunk's head written over -/
theorem ownH_head {w : World} {B g n cap : Nat} {x : Hk} {l : List Hk} {hd : ByteArray} (h : OwnH w B (.slice (some ⟨g, 0, none⟩) n cap) (x :: l)) : OwnH (w.setCell ⟨g, 4, none⟩ (.string hd)) B (.slice (some ⟨g, 0, none⟩) n cap) (headed hd (x :: l)) := by
  obtain ⟨p, h1, h2, h3⟩ := h
  cases p with
  | nil => simp at h1
  | cons q p =>
    obtain ⟨y, u⟩ := q
    rw [List.map_cons, List.cons.injEq] at h1
    obtain ⟨rfl, h1⟩ := h1
    obtain ⟨g1, ⟨hv, _⟩ | ⟨g', cap', cur, hv, hB, hh, hc, hm, hsz, htk⟩⟩ := h2
    · cases hv
    · have hv2 : g = g' ∧ n = (y :: l).length ∧ cap = cap' := by
        simp only [Value.slice.injEq, Option.some.injEq, Addr.mk.injEq, and_true] at hv
        exact hv
      obtain ⟨rfl, rfl, rfl⟩ := hv2
      have hne : ∀ q : Hk × Value, OwnW w B q.2 q.1.rows → q.2.ownBlock ≠ some g := fun q hq => own_ne hq hh (by decide)
      refine ⟨({ y with head := hd }, u) :: p, by rw [List.map_cons, h1]; rfl, ⟨?_, .inr ⟨g, cap, cur.setIfInBounds 4 (.string hd), rfl, hB, set_heap w g 4 _ _ _ hh, hc, hm, by rw [Array.size_setIfInBounds]; exact hsz, ?_⟩⟩, fun q hq => ?_⟩
      · rw [hksC_length, List.length_cons]; rw [hksC_length, List.length_cons] at g1; exact g1
      · rw [Array.toList_setIfInBounds]
        show ((cur.toList.set 4 (.string hd)).take ((y :: l).length * 6)) = _
        rw [List.take_set, htk]
        rfl
      · rcases List.mem_cons.1 hq with rfl | hq
        · have h9 := h3 (y, u) (by simp)
          exact own_far h9 (fun k hk => set_other _ (fun e => hne (y, u) h9 (by rw [← e]; exact hk)))
        · have h9 := h3 q (by simp [hq])
          exact own_far h9 (fun k hk => set_other _ (fun e => hne q h9 (by rw [← e]; exact hk)))
/-- what holds between two rounds of the document's Narrow -/
structure NdI (h : Hk) (c i : Nat) (fr : Option Nat) (last : Nat) (D : List Sp) (X : List Hk) : Prop where
  all : nD c h.rows.length h.rows 0 none 0 = D ++ nD c h.rows.length (h.rows.drop i) i fr last
  x : X = D.map fun s => cutP h s.1 s.2
  le : last ≤ i
  fle : ∀ f, fr = some f → f ≤ last ∧ 1 ≤ last
  none_ : fr = none → D = [] ∧ last = 0
  xl : X.length ≤ i
  nn : fr = none → ∀ r ∈ h.rows.take i, r.k = 1
def frI : Option Nat → Int
  | none => -1
  | some f => f
theorem ownH_some {w : World} {B : Nat} {v : Value} {x : Hk} {l : List Hk} (h : OwnH w B v (x :: l)) : ∃ g cap cur, v = .slice (some ⟨g, 0, none⟩) (x :: l).length cap ∧ B ≤ g ∧ w.heap[g]? = some (.cells cur 29) ∧ 6 ≤ cur.size := by
  obtain ⟨p, h1, h2, h3⟩ := h
  obtain ⟨g1, ⟨hv, hn⟩ | ⟨g, cap, cur, hv, hB, hh, hc, hm, hsz, htk⟩⟩ := h2
  · simp at hn
  · refine ⟨g, cap, cur, hv, hB, hh, ?_⟩
    rw [hsz]
    rw [List.length_cons] at hc
    omega
/-- a hunk that may be has no more rows than lines -/
theorem rows_le {l : List Rw} (h : l.all (fun r => r.k == 1 || Hu.isC r) = true) : l.length ≤ (Hu.olds l).length + (Hu.fres l).length := by
  induction l with
  | nil => exact Nat.zero_le _
  | cons r l ih =>
    rw [List.all_cons, Bool.and_eq_true] at h
    have h2 := ih h.2
    have h1 := h.1
    unfold Hu.olds Hu.fres at h2 ⊢
    simp only [List.length_map] at h2 ⊢
    by_cases e : Hu.isO r
    · rw [List.filter_cons_of_pos e, List.length_cons, List.length_cons]
      have := (List.Sublist.filter Hu.isF (List.sublist_cons_self r l)).length_le
      omega
    · have f : Hu.isF r := by
        unfold Hu.isO at e
        unfold Hu.isC at h1
        unfold Hu.isF
        simp at e h1 ⊢
        omega
      rw [List.filter_cons_of_pos f, List.length_cons, List.length_cons]
      have := (List.Sublist.filter Hu.isO (List.sublist_cons_self r l)).length_le
      omega
set_option maxHeartbeats 1500000 in
set_option maxRecDepth 100000 in
theorem rNarrow_ok {w : World} {h : Hk} {v : Value} {ctx : Int} (hv : RdW w v h.rows) (hA : ArgS v) (hz : SzH h) (hvl : Hu.vld h = true) (hc0 : 0 ≤ ctx) (hc1 : ctx ≤ 2147483647) :
    Calls Tryz.prog 36 #[HkV h v, .int .i64 ctx] w fun e w' => ∃ v', e = .returned (.tuple #[v', .int .i64 0]) ∧ OwnH w' w.heap.size v' (headed h.head ((nD ctx.toNat h.rows.length h.rows 0 none 0).map fun s => cutP h s.1 s.2)) ∧ Below w.heap.size w w' := by
  obtain ⟨c, rfl⟩ := Int.eq_ofNat_of_zero_le hc0
  rw [Int.toNat_natCast]
  have HVA := hid (fun w1 (hb : Below w.heap.size w w1) => rValid_any (h := h) (hv.below hb) hz)
  rw [show vldN h = 0 by unfold vldN; rw [hvl]; rfl] at HVA
  obtain ⟨y1, y2, y3, y4, _, y5, y6, y7, _, _⟩ := Hu.vld_parts hvl
  have hPQ : 0 ≤ Hu.plc h.a h.n ∧ Hu.plc h.a h.n ≤ 4294967296 ∧ 0 ≤ Hu.plc h.b h.m ∧ Hu.plc h.b h.m ≤ 4294967296 := by
    unfold Hu.plc
    split <;> split <;> omega
  have HCU := hid (fun w1 f t (hb : Below w.heap.size w w1) (hft : f ≤ t) (ht : t ≤ h.rows.length) => rCut_any (h := h) (f := f) (t := t) (hv.below hb) hA hz.1 hPQ (vld_pl hvl) hft ht)
  have hNs : h.rows.length ≤ 4294967296 := by
    have y9 := y1
    unfold Hu.areR at y9
    rw [Bool.and_eq_true] at y9
    have := rows_le y9.1
    omega
  have hchg : ∃ r ∈ h.rows, ¬ r.k = 1 := by
    unfold Hu.areR at y1
    rw [Bool.and_eq_true] at y1
    obtain ⟨r, hr, hc⟩ := List.any_eq_true.1 y1.2
    refine ⟨r, hr, fun e => ?_⟩
    unfold Hu.isC at hc
    rw [e] at hc
    cases hc
  obtain ⟨av, cv, rfl⟩ := hv.shape
  have HV := hid hv
  have HSZ := hid hz
  obtain ⟨xa, xn, xb, xm, xh, xr⟩ := h
  dsimp only at HV HVA HCU hchg hz ⊢
  unfold HkV at HVA ⊢
  dsimp only at HVA ⊢
  obtain ⟨N, hN⟩ : ∃ N, N = xr.length := ⟨_, rfl⟩
  have HN := hid hN
  have hNl : N ≤ 4294967296 := by rw [hN]; exact hNs
  rw [← hN] at HVA ⊢
  have HCG := hid hchg
  have hbH := (Below.refl w.heap.size w).alloc (Nat.le_refl _) (.cells #[.int .i64 xa, .int .i64 xn, .int .i64 xb, .int .i64 xm, .string xh, .slice av N cv] 29)
  have hkH := heap_alloc_new w (.cells #[.int .i64 xa, .int .i64 xn, .int .i64 xb, .int .i64 xm, .string xh, .slice av N cv] 29)
  clear hv hA hz hvl y1 y2 y3 y4 y5 y6 y7 hPQ hchg hN hc0 hNs
  go_enter Tryz.func36, Tryz.ntmps36
  go_wp2_with fail
  obtain ⟨H, hH⟩ : ∃ H, H = w.heap.size := ⟨_, rfl⟩
  have HH := hid hH
  rw [← hH] at hkH ⊢
  generalize w.alloc (.cells #[.int .i64 xa, .int .i64 xn, .int .i64 xb, .int .i64 xm, .string xh, .slice av N cv] 29) = w1 at hbH hkH ⊢
  refine (HVA.out w1 hbH).mono ?_
  rintro e w2 ⟨rfl, hb2⟩
  have HB2 := hid (hbH.trans (hb2.mono hbH.size))
  have HK2 := hid ((hb2.block H (lt_of_heap hkH)).trans hkH)
  clear hbH hkH hb2 HVA hH
  have q5 : w2.cell? ⟨H, 5, none⟩ = some (.slice av N cv) := cell_of_blk HK2.out 5
  have i9 : IntKind.i64.wrap (2 * (c : Int)) = 2 * (c : Int) := wrapOk (by omega) (by omega)
  go_wp2_with fail
  go_loopw [6, 7, 8, 9] (fun vo ff ll ii wr => ∃ (i last : Nat) (fr : Option Nat) (D : List Sp) (X : List Hk), i ≤ N ∧ last ≤ N ∧ ii = .int .i64 i ∧ ll = .int .i64 last ∧ ff = .int .i64 (frI fr) ∧ Hid (NdI ⟨xa, xn, xb, xm, xh, xr⟩ c i fr last D X) ∧ Hid (OwnH wr w2.heap.size vo X) ∧ Hid (Below w2.heap.size w2 wr)) (fun _ _ _ ii _ => N - (intOf ii).toNat)
  case atStart => exact ⟨0, 0, none, [], [], Nat.zero_le _, Nat.zero_le _, rfl, rfl, rfl, hid ⟨rfl, rfl, Nat.le_refl _, (fun f h => by cases h), fun _ => ⟨rfl, rfl⟩, Nat.le_refl _, (fun _ r hr => by simp at hr)⟩, OwnH.nil _ _, Below.refl _ _⟩
  case round =>
    obtain ⟨i, last, fr, D, X, hi, hla, rfl, rfl, rfl, HI, HO, HB⟩ := hrel
    obtain ⟨ao, co, rfl⟩ := HO.out.shape
    have HBW := hid (HB2.out.trans (HB.out.mono HB2.out.size))
    have HKr := hid ((HB.out.block H (lt_of_heap HK2.out)).trans HK2.out)
    clear q5
    have q5 : wr.cell? ⟨H, 5, none⟩ = some (.slice av N cv) := cell_of_blk HKr.out 5
    by_cases hlt : i < N
    · obtain ⟨r, hr⟩ : ∃ r, xr[i]? = some r := ⟨_, List.getElem?_eq_getElem (by have := HN.out; omega)⟩
      obtain ⟨b1, o1, e1, hb1, d0, _⟩ := rdW_at (HV.out.below HBW.out) hr
      subst e1
      have HDR := hid (dropW hr)
      have j1 : (0 : Int) ≤ (i : Int) := by omega
      have j2 : (i : Int) < (N : Int) := by omega
      have s3 : IntKind.i64.wrap ((i : Int) + 1) = (i : Int) + 1 := wrapOk (by omega) (by omega)
      have HTK : Hid (xr.take (i + 1) = xr.take i ++ [r]) := hid (by rw [List.take_add_one, hr]; rfl)
      clear hr hb1
      by_cases hk1 : r.k = 1
      · have z1 : (r.k == 1) = true := by rw [hk1]; rfl
        have HI2 : Hid (NdI ⟨xa, xn, xb, xm, xh, xr⟩ c (i + 1) fr last D X) := hid ⟨by rw [HI.out.all]; simp only; rw [HDR.out, nD_both hk1], HI.out.x, by have := HI.out.le; omega, HI.out.fle, HI.out.none_, by have := HI.out.xl; omega, (fun hn q hq => by simp only at hq; rw [HTK.out] at hq; rcases List.mem_append.1 hq with hq | hq; exact HI.out.nn hn q hq; simp at hq; subst hq; exact hk1)⟩
        clear hk1 HI
        go_wp2_with fail
        go_roundw
        case rel => exact ⟨i + 1, last, fr, D, X, by omega, hla, by go_num, rfl, rfl, HI2, HO, HB⟩
        case measure => simp [intOf]; omega
      · have z1 : (r.k == 1) = false := by simp [hk1]
        cases fr with
        | none =>
          have HI2 : Hid (NdI ⟨xa, xn, xb, xm, xh, xr⟩ c (i + 1) (some (i - min c i)) (i + 1) D X) := hid ⟨by rw [HI.out.all]; simp only; rw [HDR.out, nD_none hk1], HI.out.x, Nat.le_refl _, (fun f h => by cases h; omega), (fun h => by cases h), by have := HI.out.xl; omega, (fun h => by cases h)⟩
          clear hk1 HI
          have e0 : frI none = -1 := rfl
          rw [e0]
          clear e0
          go_wp2_with fail
          go_roundw
          case rel => exact ⟨i + 1, i + 1, some (i - min c i), D, X, by omega, by omega, by go_num, by go_num, by unfold frI; go_num, HI2, HO, HB⟩
          case measure => simp [intOf]; omega
        | some f =>
          have hfl := HI.out.fle f rfl
          have hli := HI.out.le
          have e0 : frI (some f) = (f : Int) := rfl
          rw [e0]
          clear e0
          have k1 : ¬ ((f : Int) < 0) := by omega
          have k2 : IntKind.i64.wrap ((i : Int) - (last : Int)) = (i : Int) - (last : Int) := wrapOk (by omega) (by omega)
          by_cases hgap : last + 2 * c < i
          · have HI2 : Hid (NdI ⟨xa, xn, xb, xm, xh, xr⟩ c (i + 1) (some (i - min c i)) (i + 1) (D ++ [(f, last + c)]) (X ++ [cutP ⟨xa, xn, xb, xm, xh, xr⟩ f (last + c)])) := hid ⟨by rw [HI.out.all]; simp only; rw [HDR.out, nD_some hk1, if_pos hgap, List.append_assoc]; rfl, by rw [HI.out.x, List.map_append]; rfl, Nat.le_refl _, (fun f h => by cases h; omega), (fun h => by cases h), by have := HI.out.xl; rw [List.length_append, List.length_singleton]; omega, (fun h => by cases h)⟩
            have hXl : X.length < 1954687338260 := by have := HI.out.xl; omega
            have HC := hid (HCU.out wr f (last + c) HBW.out (by omega) (by have := HN.out; show _ ≤ xr.length; omega))
            rw [← HN.out] at HC
            have k3 : IntKind.i64.wrap ((last : Int) + (c : Int)) = ((last + c : Nat) : Int) := by rw [wrapOk (by omega) (by omega)]; omega
            have k4 : (2 * (c : Int)) < (i : Int) - (last : Int) := by omega
            have q0 : wr.cell? ⟨H, 0, none⟩ = some (.int .i64 xa) := cell_of_blk HKr.out 0
            have q1 : wr.cell? ⟨H, 1, none⟩ = some (.int .i64 xn) := cell_of_blk HKr.out 1
            have q2 : wr.cell? ⟨H, 2, none⟩ = some (.int .i64 xb) := cell_of_blk HKr.out 2
            have q3 : wr.cell? ⟨H, 3, none⟩ = some (.int .i64 xm) := cell_of_blk HKr.out 3
            have q4 : wr.cell? ⟨H, 4, none⟩ = some (.string xh) := cell_of_blk HKr.out 4
            obtain ⟨K, hK⟩ : ∃ K, K = cutP ⟨xa, xn, xb, xm, xh, xr⟩ f (last + c) := ⟨_, rfl⟩
            rw [← hK] at HC HI2
            clear hK
            obtain ⟨ka, kn, kb, km, kh, kr⟩ := K
            unfold HkV at HC
            dsimp only at HC
            clear hk1 HI
            go_wp2_with fail
            refine HC.out.mono ?_
            rintro e w3 ⟨v3, rfl, hO3, hb3⟩
            obtain ⟨a6, c6, e6⟩ := own_shape hO3
            subst e6
            have hbn := (Below.refl w3.heap.size w3).alloc (Nat.le_refl _) (.cells #[.int .i64 ka, .int .i64 kn, .int .i64 kb, .int .i64 km, .string kh, .slice a6 kr.length c6] 29)
            have HB4 := hid (HB.out.trans (hb3.mono HB.out.size))
            have HO4 := hid ((HO.out.stays hb3).stays hbn)
            have HR4 := hid (own_mono (own_stays hO3 hbn) HB.out.size)
            have HB5 := hid (HB4.out.trans (hbn.mono HB4.out.size))
            clear hbn hO3 hb3 HC d0 q0 q1 q2 q3 q4 q5
            go_wp2_with (at_builtin; refine wpList_append_hk rfl _ _ rfl w2.heap.size _ X rfl HO4.out w3.heap.size ⟨ka, kn, kb, km, kh, kr⟩ (.slice a6 kr.length c6) rfl (heap_alloc_new w3 _) HR4.out hXl HB5.out.size ?_; intro v8 w8 hO8 hb8; have HO8 := hid hO8; have HB8 := hid (HB5.out.trans hb8); clear hO8 hb8)
            go_roundw
            case rel => exact ⟨i + 1, i + 1, some (i - min c i), D ++ [(f, last + c)], X ++ [⟨ka, kn, kb, km, kh, kr⟩], by omega, by omega, by go_num, by go_num, by unfold frI; go_num, HI2, HO8, HB8⟩
            case measure => simp [intOf]; omega
          · have HI2 : Hid (NdI ⟨xa, xn, xb, xm, xh, xr⟩ c (i + 1) (some f) (i + 1) D X) := hid ⟨by rw [HI.out.all]; simp only; rw [HDR.out, nD_some hk1, if_neg hgap], HI.out.x, Nat.le_refl _, (fun f' h => by cases h; omega), (fun h => by cases h), by have := HI.out.xl; omega, (fun h => by cases h)⟩
            have k4 : ¬ ((2 * (c : Int)) < (i : Int) - (last : Int)) := by omega
            clear hk1 HI
            go_wp2_with fail
            go_roundw
            case rel => exact ⟨i + 1, i + 1, some f, D, X, by omega, by omega, by go_num, by go_num, rfl, HI2, HO, HB⟩
            case measure => simp [intOf]; omega
    · obtain rfl : i = N := by omega
      cases fr with
      | none =>
        obtain ⟨r, hr, hrk⟩ := HCG.out
        exact absurd (HI.out.nn rfl r (by simp only; rw [List.take_of_length_le (by have := HN.out; omega)]; exact hr)) hrk
      | some f =>
        have hfl := HI.out.fle f rfl
        have hXl : X.length < 1954687338260 := by have := HI.out.xl; omega
        have e0 : frI (some f) = (f : Int) := rfl
        rw [e0]
        clear e0
        have k2 : IntKind.i64.wrap ((i : Int) - (last : Int)) = (i : Int) - (last : Int) := wrapOk (by omega) (by omega)
        have k3 : IntKind.i64.wrap ((last : Int) + min (c : Int) ((i : Int) - (last : Int))) = ((last + min c (i - last) : Nat) : Int) := by rw [wrapOk (by omega) (by omega)]; omega
        have HC := hid (HCU.out wr f (last + min c (i - last)) HBW.out (by omega) (by have := HN.out; show _ ≤ xr.length; omega))
        rw [← HN.out] at HC
        have HE : Hid ((nD c i xr 0 none 0).map (fun s => cutP ⟨xa, xn, xb, xm, xh, xr⟩ s.1 s.2) = X ++ [cutP ⟨xa, xn, xb, xm, xh, xr⟩ f (last + min c (i - last))]) := hid (by
          have h1 := HI.out.all
          simp only at h1
          rw [← HN.out, List.drop_of_length_le (by have := HN.out; omega)] at h1
          rw [h1, List.map_append, HI.out.x]
          rfl)
        have q0 : wr.cell? ⟨H, 0, none⟩ = some (.int .i64 xa) := cell_of_blk HKr.out 0
        have q1 : wr.cell? ⟨H, 1, none⟩ = some (.int .i64 xn) := cell_of_blk HKr.out 1
        have q2 : wr.cell? ⟨H, 2, none⟩ = some (.int .i64 xb) := cell_of_blk HKr.out 2
        have q3 : wr.cell? ⟨H, 3, none⟩ = some (.int .i64 xm) := cell_of_blk HKr.out 3
        have q4 : wr.cell? ⟨H, 4, none⟩ = some (.string xh) := cell_of_blk HKr.out 4
        obtain ⟨K, hK⟩ : ∃ K, K = cutP ⟨xa, xn, xb, xm, xh, xr⟩ f (last + min c (i - last)) := ⟨_, rfl⟩
        rw [← hK] at HC HE
        clear hK
        obtain ⟨ka, kn, kb, km, kh, kr⟩ := K
        unfold HkV at HC
        dsimp only at HC
        clear HI
        go_wp2_with fail
        refine HC.out.mono ?_
        rintro e w3 ⟨v3, rfl, hO3, hb3⟩
        obtain ⟨a6, c6, e6⟩ := own_shape hO3
        subst e6
        have hbn := (Below.refl w3.heap.size w3).alloc (Nat.le_refl _) (.cells #[.int .i64 ka, .int .i64 kn, .int .i64 kb, .int .i64 km, .string kh, .slice a6 kr.length c6] 29)
        have HB4 := hid (HB.out.trans (hb3.mono HB.out.size))
        have HO4 := hid ((HO.out.stays hb3).stays hbn)
        have HR4 := hid (own_mono (own_stays hO3 hbn) HB.out.size)
        have HB5 := hid (HB4.out.trans (hbn.mono HB4.out.size))
        clear hbn hO3 hb3 HC q0 q1 q2 q3 q4 q5
        go_wp2_with (at_builtin; refine wpList_append_hk rfl _ _ rfl w2.heap.size _ X rfl HO4.out w3.heap.size ⟨ka, kn, kb, km, kh, kr⟩ (.slice a6 kr.length c6) rfl (heap_alloc_new w3 _) HR4.out hXl HB5.out.size ?_; intro v8 w8 hO8 hb8; have HO8 := hid hO8; have HB8 := hid (HB5.out.trans hb8); clear hO8 hb8; have HK8 := hid ((HB8.out.block H (lt_of_heap HK2.out)).trans HK2.out); have q4 : w8.cell? ⟨H, 4, none⟩ = some (.string xh) := cell_of_blk HK8.out 4; obtain ⟨Y, hY⟩ : ∃ Y, Y = X ++ [(⟨ka, kn, kb, km, kh, kr⟩ : Hk)] := ⟨_, rfl⟩; rw [← hY] at HO8 HE; obtain ⟨y, Y', rfl⟩ : ∃ y Y', Y = y :: Y' := (by cases X <;> exact ⟨_, _, hY⟩); obtain ⟨g, cap, cur, rfl, hgB, hgh, hgc⟩ := ownH_some HO8.out; have qg : w8.cell? ⟨g, 4, none⟩ = some (cur[4]'(by omega)) := (by have := cell_of_blk hgh 4; rw [this]; exact Array.getElem?_eq_getElem (by omega)); have qf : ∀ j, w8.frozen? ⟨g, j, none⟩ = false := (fun j => frozen_of_blk hgh j))
        have hL : (y :: Y').length = X.length + 1 := by rw [hY, List.length_append]; rfl
        go_ret2
        refine ⟨_, rfl, ?_, below_set (HB2.out.trans (HB8.out.mono HB2.out.size)) (Nat.le_trans HB2.out.size hgB)⟩
        rw [HE.out]
        rw [← hL]
        exact (ownH_head HO8.out).mono HB2.out.size
set_option maxHeartbeats 1500000 in
set_option maxRecDepth 100000 in
theorem rNarrow_any {w : World} {h : Hk} {v : Value} {ctx : Int} (hv : RdW w v h.rows) (hA : ArgS v) (hz : SzH h) :
    Calls Tryz.prog 36 #[HkV h v, .int .i64 ctx] w fun e w' => ∃ v', e = .returned (.tuple #[v', .int .i64 (narN h ctx)]) ∧ OwnH w' w.heap.size v' (narA h ctx) ∧ Below w.heap.size w w' := by
  by_cases hc : ctxOk ctx
  · by_cases hvl : Hu.vld h = true
    · have e1 : narN h ctx = 0 := by unfold narN; rw [if_pos hc, if_pos hvl]
      have hc2 := hc
      unfold ctxOk at hc2
      simp at hc2
      have := rNarrow_ok hv hA hz hvl hc2.1 hc2.2
      unfold narA
      rw [if_pos e1, e1]
      exact this
    · have e1 : narN h ctx = 100 := by unfold narN; rw [if_pos hc, if_neg hvl]
      have e2 : narA h ctx = [] := by unfold narA; rw [e1]; rfl
      rw [e1, e2]
      have hc2 := hc
      unfold ctxOk at hc2
      simp at hc2
      have HVA := hid (fun w1 (hb : Below w.heap.size w w1) => rValid_any (h := h) (hv.below hb) hz)
      rw [show vldN h = 100 by unfold vldN; rw [if_neg hvl]] at HVA
      obtain ⟨av, cv, rfl⟩ := hv.shape
      obtain ⟨xa, xn, xb, xm, xh, xr⟩ := h
      dsimp only at HVA ⊢
      unfold HkV at HVA ⊢
      dsimp only at HVA ⊢
      have hbH := (Below.refl w.heap.size w).alloc (Nat.le_refl _) (.cells #[.int .i64 xa, .int .i64 xn, .int .i64 xb, .int .i64 xm, .string xh, .slice av xr.length cv] 29)
      clear hv hA hz hvl hc e1 e2
      obtain ⟨hc0, hc1⟩ := hc2
      go_enter Tryz.func36, Tryz.ntmps36
      go_wp2_with fail
      refine (HVA.out _ hbH).mono ?_
      rintro e w2 ⟨rfl, hb2⟩
      have HB2 := hid (hbH.trans (hb2.mono hbH.size))
      clear hbH hb2 HVA
      go_wp2_with fail
      go_ret2
      exact ⟨_, rfl, OwnH.nil _ _, HB2.out⟩
  · have e1 : narN h ctx = 1 := by unfold narN; rw [if_neg hc]
    have e2 : narA h ctx = [] := by unfold narA; rw [e1]; rfl
    rw [e1, e2]
    unfold ctxOk at hc
    simp at hc
    obtain ⟨av, cv, rfl⟩ := hv.shape
    obtain ⟨xa, xn, xb, xm, xh, xr⟩ := h
    dsimp only
    unfold HkV
    dsimp only
    have hbH := (Below.refl w.heap.size w).alloc (Nat.le_refl _) (.cells #[.int .i64 xa, .int .i64 xn, .int .i64 xb, .int .i64 xm, .string xh, .slice av xr.length cv] 29)
    clear hv hA hz e1 e2
    by_cases hc0 : ctx < 0
    · clear hc
      go_enter Tryz.func36, Tryz.ntmps36
      go_wp2_with fail
      go_ret2
      exact ⟨_, rfl, OwnH.nil _ _, hbH⟩
    · have hc1 := hc (by omega)
      clear hc
      go_enter Tryz.func36, Tryz.ntmps36
      go_wp2_with fail
      go_ret2
      exact ⟨_, rfl, OwnH.nil _ _, hbH⟩
end Go.Proofs.YtnamioihapnefaaGreatDoor
