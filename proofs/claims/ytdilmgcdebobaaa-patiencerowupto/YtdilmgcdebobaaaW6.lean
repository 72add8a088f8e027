/-
  The walk of anchors, where no anchor is met twice.
-/
import Derived.Test.YtdilmgcdebobaaaGrW4
namespace Go.Proofs.Ytdilmgcdebobaaa
open Go.RowKit
open Ed (Ch Run Pr)
open Go.Sort hiding Below Holds

theorem cntB_mono (l : List Int) {x y : Int} (h : x ≤ y) : cntB l x ≤ cntB l y := by
  unfold cntB
  induction l with
  | nil => exact Nat.le_refl _
  | cons a r ih =>
    by_cases h1 : a < x
    · rw [List.filter_cons_of_pos (by simpa using h1), List.filter_cons_of_pos (by simp; omega)]
      simp; exact ih
    · rw [List.filter_cons_of_neg (by simpa using h1)]
      by_cases h2 : a < y
      · rw [List.filter_cons_of_pos (by simpa using h2), List.length_cons]; omega
      · rw [List.filter_cons_of_neg (by simpa using h2)]; exact ih
/-- the anchor of a number, if it is one -/
def one (l : List Int) (x y : Int) : Option Int := if cntB l y = cntB l x + 1 then some (fn l (cntB l x)) else none
def anc (pl : Int → Bool → List Int) (x0 y0 x1 y1 : Int) (z : Int) : Option Pr := match one (pl z false) x0 x1, one (pl z true) y0 y1 with
  | some x, some y => some (x, y)
  | _, _ => none
def loneV : Option Int → Value
  | some x => .tuple #[.int .i64 x, .bool true]
  | none => .tuple #[.int .i64 0, .bool false]
theorem lone_one {w : World} {v : Value} {l : List Int} (hv : RdI w v l) (hp : l.Pairwise (· < ·)) (hl : l.length ≤ 100000000) (x y : Int) (hxy : x ≤ y) :
    Calls Try.prog 34 #[v, .int .i64 x, .int .i64 y] w fun e w' => e = .returned (loneV (one l x y)) ∧ w' = w := by
  refine (lone_any hv hp hl x y (cntB_mono l hxy)).mono ?_
  rintro e w' ⟨rfl, rfl⟩
  unfold one
  split <;> exact ⟨rfl, rfl⟩

theorem Try.infoPair' : (Try.prog.info? 27).map (fun i => (i.zero, i.size, i.bytes)) = some (some (.agg #[.int .i64 0, .int .i64 0]), 2, 16) := by kernel_rfl
abbrev OwnPr (w : World) (B : Nat) (v : Value) (P : List Pr) : Prop := w.ownsRow B 27 2 v P.length (psC P)
theorem wpList_append_pr {w : World} {ops : Array Oper} {rest : List Oper} {o : Oper} {a : Act} {Q : Exit → Act → World → Prop} (hgd : o.guard = none) (s x : Operand)
    (ho : o.op = .call { callee := .builtin .append, args := #[s, x], argTypes := #[24, 24] }) (B : Nat) (v : Value) (P : List Pr) (hs : a.eval s = v) (hown : OwnPr w B v P)
    (g : Nat) (p q : Int) (hx : a.eval x = .slice (some ⟨g, 0, none⟩) 1 1) (hg : w.heap[g]? = some (.cells #[.int .i64 p, .int .i64 q] 27)) (hfit : P.length ≤ 1000000000) (hB : B ≤ w.heap.size)
    (h : ∀ v' w', OwnPr w' B v' (P ++ [(p, q)]) → w.grownBy w' v.ownBlock → wpList Try.prog ops Q rest (a.put o.dst v') w') : wpList Try.prog ops Q (o :: rest) a w := by
  obtain ⟨i0, hi, hz0, hz1, hz2⟩ := info_parts Try.infoPair'
  refine wpList_append_lies _ hgd s x 24 ho B 27 i0 (.agg #[.int .i64 0, .int .i64 0]) 2 16 Try.underlying24 hi hz0 hz1 hz2 rfl (by decide) v P.length (psC P) hs hown ⟨g, 0, none⟩ 1 1 (pC (p, q)) hx rfl ?_ ?_ (by decide) ?_ ?_ hB w.heap.size rfl ?_
  · exact World.news_of_block (cs := #[.int .i64 p, .int .i64 q]) hg
  · have := psC_one [(p, q)]
    simpa [psC] using this
  · unfold maxLen; omega
  · omega
  · intro g' cap w' g2 g3 _ _
    refine h _ w' ?_ g3
    show w'.ownsRow _ _ _ _ _ _
    rw [List.length_append, psC_append]
    have e : psC [(p, q)] = pC (p, q) := by simp [psC]
    rw [e]; exact g2

theorem rd_of_holds {w : World} {g c : Nat} {l : List Pr} (h : HoldsK pC 2 w g 0 l.toArray) (hg : g < w.heap.size) (hc : l.length ≤ c) : RdP w (.slice (some ⟨g, 0, none⟩) l.length c) l := by
  refine .inr ⟨g, 0, c, rfl, hc, hg, fun j u hj => ?_⟩
  have hj' : j < l.length * 2 := by
    rw [← psC_length]
    exact (List.getElem?_eq_some_iff.1 hj).1
  rw [psC_flat l j hj'] at hj
  rw [(h j (by simpa using hj')).1]
  exact hj
theorem nodup_next {l : List Pr} (h : l.Nodup) (i : Nat) (x y : Pr) (hx : l[i]? = some x) (hy : l[i + 1]? = some y) : x ≠ y := by
  obtain ⟨h1, e1⟩ := List.getElem?_eq_some_iff.1 hx
  obtain ⟨h2, e2⟩ := List.getElem?_eq_some_iff.1 hy
  have := List.pairwise_iff_getElem.1 h i (i + 1) h1 h2 (Nat.lt_succ_self _)
  rw [e1, e2] at this
  exact this

set_option maxHeartbeats 4000000 in
set_option maxRecDepth 100000 in
theorem anchors_any {w : World} {B M n : Nat} {inn : Int → Bool} {sl : Int → Bool → Value} {pl : Int → Bool → List Int} (hP : Pls w B M n inn sl pl) (hs : ∀ z s, (pl z s).Pairwise (· < ·)) (hk : ∀ z s, (pl z s).length ≤ 100000000) (x0 y0 x1 y1 : Nat) (hx : x0 ≤ x1) (hy : y0 ≤ y1)
    {v : Value} {rs : List Value} {ls : List (List Int)} (hr : RdX w v rs.length rs) (hlen : rs.length = ls.length) (hrl : ∀ (j : Nat) r l, rs[j]? = some r → ls[j]? = some l → RdI w r l) (hwf : ∀ l ∈ ls, ∀ x ∈ l, I64 x) (hbig : ls.flatten.length ≤ 100000000) (hls : ls.length ≤ 100000000)
    (hnd : (ls.flatten.filterMap (anc pl x0 y0 x1 y1)).Nodup) :
    Calls Try.prog 24 #[.map (some M), .agg #[.int .i64 x0, .int .i64 y0, .int .i64 x1, .int .i64 y1], v] w fun e w' =>
      ∃ u P, e = .returned u ∧ P.Perm (ls.flatten.filterMap (anc pl x0 y0 x1 y1)) ∧ (∀ (i j : Nat) (x y : Pr), i < j → P[i]? = some x → P[j]? = some y → x.1 ≤ y.1) ∧ RdP w' u P ∧ Below w.heap.size w w' := by
  have HR := hid hr
  have HRL := hid hrl
  have HWF := hid hwf
  have HND := hid hnd
  have HSO := hid hs
  have HKL := hid hk
  obtain ⟨av, cv, rfl⟩ := hr.shape
  obtain ⟨N, hN⟩ : ∃ N, N = rs.length := ⟨_, rfl⟩
  have HN := hid hN
  rw [← hN] at HR hlen ⊢
  obtain ⟨F, hF⟩ : ∃ F, F = ls.flatten.filterMap (anc pl x0 y0 x1 y1) := ⟨_, rfl⟩
  have HF := hid hF
  rw [← hF] at HND ⊢
  obtain ⟨O, hO⟩ : ∃ O, O = Obj.cells #[.int .i64 x0, .int .i64 y0, .int .i64 x1, .int .i64 y1] 40 := ⟨_, rfl⟩
  have hbA : Below w.heap.size w (w.alloc O) := (Below.refl _ _).alloc (Nat.le_refl _) _
  have hsA : (w.alloc O).heap.size = w.heap.size + 1 := by simp
  have HBA := hid hbA
  have HPA := hid (hP.later hbA)
  have HBX : Hid ((w.alloc O).heap[w.heap.size]? = some O) := hid (heap_alloc_new w O)
  have HSA := hid hsA
  rw [hO] at HBA HPA HBX HSA
  obtain ⟨w1, hw1⟩ : ∃ w1, w1 = w.alloc (Obj.cells #[.int .i64 x0, .int .i64 y0, .int .i64 x1, .int .i64 y1] 40) := ⟨_, rfl⟩
  rw [← hw1] at HBA HPA HBX HSA
  have HW1 := hid hw1
  have hNb : N ≤ 100000000 := by rw [hlen]; exact hls
  have HLEN := hid hlen
  clear hr hrl hwf hnd hs hk hN hF hO hbA hsA hP hw1 hlen
  go_enter Try.func24, Try.ntmps24
  go_wp2
  rw [← HW1.out]
  go_loopw [7, 9, 11, 12, 13, 14, 15, 16, 19] (fun v7 _ _ _ _ _ _ _ ii wr => ∃ (j : Nat) (P : List Pr), j ≤ N ∧ ii = .int .i64 j ∧ P.length + (ls.drop j).flatten.length ≤ 100000000 ∧ Hid (F = P ++ (ls.drop j).flatten.filterMap (anc pl x0 y0 x1 y1)) ∧ Hid (OwnPr wr w1.heap.size v7 P) ∧ Hid (Below w1.heap.size w1 wr)) (fun _ _ _ _ _ _ _ _ ii _ => N - (intOf ii).toNat)
  case atStart => exact ⟨0, [], Nat.zero_le _, rfl, by simpa using hbig, HF, hid (World.ownsRow_nil _ _ _ _), hid (Below.refl _ _)⟩
  case round =>
    obtain ⟨j, P, hj, rfl, hPj, HFJ, HOJ, HBJ⟩ := hrel
    by_cases hlt : j < N
    · obtain ⟨r, hrr⟩ : ∃ r, rs[j]? = some r := ⟨_, List.getElem?_eq_getElem (by rw [← HN.out]; exact hlt)⟩
      have HJL : Hid (j < ls.length) := hid (by have := HLEN.out; omega)
      obtain ⟨l, hll⟩ : ∃ l, ls[j]? = some l := ⟨_, List.getElem?_eq_getElem HJL.out⟩
      have hRI := HRL.out j r l hrr hll
      rcases HR.out with ⟨h0, _⟩ | ⟨rb, ro, rc, e, _, hrb, hX⟩
      · omega
      cases e
      have d1 := hX j r hrr
      obtain ⟨ar, cr, e⟩ := hRI.shape
      subst e
      obtain ⟨L, hL⟩ : ∃ L, L = l.length := ⟨_, rfl⟩
      rw [← hL] at hRI d1
      have HRI := hid hRI
      have HL := hid hL
      have HBW : Hid (Below w.heap.size w wr) := hid (HBA.out.trans (HBJ.out.mono HBA.out.size))
      have d2 := (HBW.out.cell (p := ⟨rb, ro + j, none⟩) hrb).trans d1
      have hLb : L ≤ 100000000 := by
        rw [hL]
        exact Nat.le_trans (List.Sublist.length_le (List.sublist_flatten_of_mem (List.mem_of_getElem? hll))) hbig
      have HWL : Hid (∀ x ∈ l, I64 x) := hid (HWF.out l (List.mem_of_getElem? hll))
      have HF0 : Hid (F = P ++ (l.drop 0 ++ (ls.drop (j + 1)).flatten).filterMap (anc pl x0 y0 x1 y1)) := hid (by
        rw [HFJ.out, List.drop_eq_getElem_cons HJL.out, List.flatten_cons, List.drop_zero]
        rw [List.getElem?_eq_getElem HJL.out] at hll
        rw [Option.some.inj hll])
      have hPj2 : P.length + L + (ls.drop (j + 1)).flatten.length ≤ 100000000 := by
        rw [List.drop_eq_getElem_cons HJL.out, List.flatten_cons, List.length_append] at hPj
        rw [List.getElem?_eq_getElem HJL.out] at hll
        rw [Option.some.inj hll, ← HL.out] at hPj
        omega
      have j1 : (0 : Int) ≤ (j : Int) := by omega
      have j2 : (j : Int) < (N : Int) := by omega
      have j3 : IntKind.i64.wrap ((j : Int) + 1) = (j : Int) + 1 := by rw [IntKind.wrap_i64]; omega
      clear hX hrr hll hRI d1 hL HFJ
      go_wp2
      go_loopw [7, 11, 12, 13, 14, 15, 16, 25] (fun v7 _ _ _ _ _ _ ii wr => ∃ (i : Nat) (P2 : List Pr), i ≤ L ∧ ii = .int .i64 i ∧ P2.length ≤ P.length + i ∧ Hid (F = P2 ++ (l.drop i ++ (ls.drop (j + 1)).flatten).filterMap (anc pl x0 y0 x1 y1)) ∧ Hid (OwnPr wr w1.heap.size v7 P2) ∧ Hid (Below w1.heap.size w1 wr)) (fun _ _ _ _ _ _ _ ii _ => L - (intOf ii).toNat)
      case atStart => exact ⟨0, P, Nat.zero_le _, rfl, Nat.le_refl _, HF0, HOJ, HBJ⟩
      case round =>
        obtain ⟨i, P2, hi, rfl, hP2, HFI, HOI, HBI⟩ := hrel
        by_cases hlt2 : i < L
        · have hiN : i < l.length := by rw [← HL.out]; omega
          obtain ⟨zb, zo, e, hzb, d3⟩ := rdI_at HRI.out (fn_some hiN)
          cases e
          obtain ⟨z, hz⟩ : ∃ z, z = fn l i := ⟨_, rfl⟩
          rw [← hz] at d3
          have HI : Hid (I64 z) := hid (by rw [hz]; exact HWL.out _ (List.mem_of_getElem? (fn_some hiN)))
          have HDR : Hid (l.drop i = z :: l.drop (i + 1)) := hid (by
            rw [List.drop_eq_getElem_cons hiN, hz]
            have := fn_some hiN
            rw [List.getElem?_eq_getElem hiN] at this
            rw [Option.some.inj this])
          have HBW2 : Hid (Below w.heap.size w wr) := hid (HBA.out.trans (HBI.out.mono HBA.out.size))
          have d4 := (HBW2.out.cell (p := ⟨zb, zo + i, none⟩) hzb).trans d3
          have HPZ := hid (HPA.out.later HBI.out)
          obtain ⟨a8, c8, e8⟩ := (own_rd (HPZ.out.row z false)).shape
          obtain ⟨a9, c9, e9⟩ := (own_rd (HPZ.out.row z true)).shape
          have HS0 := hid e8
          have HS1 := hid e9
          obtain ⟨L8, hL8⟩ : ∃ L8, L8 = (pl z false).length := ⟨_, rfl⟩
          obtain ⟨L9, hL9⟩ : ∃ L9, L9 = (pl z true).length := ⟨_, rfl⟩
          rw [← hL8] at HS0
          rw [← hL9] at HS1
          have HAT := hid (atW_below wr (.slice a8 L8 c8) (.slice a9 L9 c9))
          have HCA := hid (lone_one (own_rd (own_stays (by have := HPZ.out.row z false; rw [HS0.out] at this; exact this) HAT.out)) (HSO.out z false) (HKL.out z false) x0 x1 (by omega))
          have HCB := hid (lone_one (own_rd (own_stays (by have := HPZ.out.row z true; rw [HS1.out] at this; exact this) HAT.out)) (HSO.out z true) (HKL.out z true) y0 y1 (by omega))
          have HAW : Hid (Below w1.heap.size w1 (atW wr (.slice a8 L8 c8) (.slice a9 L9 c9))) := hid (HBI.out.trans (HAT.out.mono HBI.out.size))
          have b0 : (wr.alloc (Obj.cells #[.slice a8 L8 c8, .slice a9 L9 c9] 63)).cell? ⟨w.heap.size, 0, none⟩ = some (.int .i64 x0) := (HAW.out.cell (p := ⟨w.heap.size, 0, none⟩) (by rw [HSA.out]; exact Nat.lt_succ_self _)).trans (cell_of_blk HBX.out 0)
          have b1 : (wr.alloc (Obj.cells #[.slice a8 L8 c8, .slice a9 L9 c9] 63)).cell? ⟨w.heap.size, 1, none⟩ = some (.int .i64 y0) := (HAW.out.cell (p := ⟨w.heap.size, 1, none⟩) (by rw [HSA.out]; exact Nat.lt_succ_self _)).trans (cell_of_blk HBX.out 1)
          have b2 : (wr.alloc (Obj.cells #[.slice a8 L8 c8, .slice a9 L9 c9] 63)).cell? ⟨w.heap.size, 2, none⟩ = some (.int .i64 x1) := (HAW.out.cell (p := ⟨w.heap.size, 2, none⟩) (by rw [HSA.out]; exact Nat.lt_succ_self _)).trans (cell_of_blk HBX.out 2)
          have b3 : (wr.alloc (Obj.cells #[.slice a8 L8 c8, .slice a9 L9 c9] 63)).cell? ⟨w.heap.size, 3, none⟩ = some (.int .i64 y1) := (HAW.out.cell (p := ⟨w.heap.size, 3, none⟩) (by rw [HSA.out]; exact Nat.lt_succ_self _)).trans (cell_of_blk HBX.out 3)
          have HOS := hid (own_stays HOI.out HAT.out)
          have HBS2 := HAW
          have HAP : Hid (∀ p q : Int, Below wr.heap.size wr ((wr.alloc (Obj.cells #[.slice a8 L8 c8, .slice a9 L9 c9] 63)).alloc (Obj.cells #[.int .i64 p, .int .i64 q] 27))) := hid (fun p q => ((Below.refl _ _).alloc (Nat.le_refl _) _).alloc (by simp) _)
          have HPL : Hid (P2.length ≤ 1000000000) := hid (by omega)
          have HGE := hid (own_ge2 HOI.out)
          have i1 : (0 : Int) ≤ (i : Int) := by omega
          have i2 : (i : Int) < (L : Int) := by omega
          have i3 : IntKind.i64.wrap ((i : Int) + 1) = (i : Int) + 1 := by rw [IntKind.wrap_i64]; omega
          clear hz d3 e8 e9 hzb hL8 hL9
          cases hA : one (pl z false) x0 x1 with
          | none =>
            cases hB : one (pl z true) y0 y1 with
            | none =>
              have HC1 : Hid (Calls Try.prog 34 #[.slice a8 L8 c8, .int .i64 x0, .int .i64 x1] (atW wr (.slice a8 L8 c8) (.slice a9 L9 c9)) fun e w' => e = .returned (.tuple #[.int .i64 0, .bool false]) ∧ w' = atW wr (.slice a8 L8 c8) (.slice a9 L9 c9)) := hid (by have h := HCA.out; rw [hA] at h; exact h)
              have HC2 : Hid (Calls Try.prog 34 #[.slice a9 L9 c9, .int .i64 y0, .int .i64 y1] (atW wr (.slice a8 L8 c8) (.slice a9 L9 c9)) fun e w' => e = .returned (.tuple #[.int .i64 0, .bool false]) ∧ w' = atW wr (.slice a8 L8 c8) (.slice a9 L9 c9)) := hid (by have h := HCB.out; rw [hB] at h; exact h)
              have HFN : Hid (F = P2 ++ (l.drop (i + 1) ++ (ls.drop (j + 1)).flatten).filterMap (anc pl x0 y0 x1 y1)) := hid (by
                have e : anc pl x0 y0 x1 y1 z = none := by unfold anc; rw [hA, hB]
                rw [HFI.out, HDR.out, List.cons_append, List.filterMap_cons, e])
              clear hA hB HCA HCB
              go_wp2_with (at_lookup; refine wpList_lookup_sp rfl _ _ rfl rfl HPZ.out z HI.out rfl _ _ HS0.out HS1.out ?_)
              refine HC1.out.mono ?_
              rintro e w3 ⟨rfl, hw3⟩
              rw [hw3]
              clear hw3 w3
              unfold atW
              go_wp2_with fail
              refine HC2.out.mono ?_
              rintro e w3 ⟨rfl, hw3⟩
              rw [hw3]
              clear hw3 w3
              unfold atW
              go_wp2
              go_roundw
              case rel => exact ⟨i + 1, P2, by omega, by push_cast; rfl, by omega, HFN, HOS, HBS2⟩
              case measure => simp [intOf]; omega
            | some ya =>
              have HC1 : Hid (Calls Try.prog 34 #[.slice a8 L8 c8, .int .i64 x0, .int .i64 x1] (atW wr (.slice a8 L8 c8) (.slice a9 L9 c9)) fun e w' => e = .returned (.tuple #[.int .i64 0, .bool false]) ∧ w' = atW wr (.slice a8 L8 c8) (.slice a9 L9 c9)) := hid (by have h := HCA.out; rw [hA] at h; exact h)
              have HC2 : Hid (Calls Try.prog 34 #[.slice a9 L9 c9, .int .i64 y0, .int .i64 y1] (atW wr (.slice a8 L8 c8) (.slice a9 L9 c9)) fun e w' => e = .returned (.tuple #[.int .i64 ya, .bool true]) ∧ w' = atW wr (.slice a8 L8 c8) (.slice a9 L9 c9)) := hid (by have h := HCB.out; rw [hB] at h; exact h)
              have HFN : Hid (F = P2 ++ (l.drop (i + 1) ++ (ls.drop (j + 1)).flatten).filterMap (anc pl x0 y0 x1 y1)) := hid (by
                have e : anc pl x0 y0 x1 y1 z = none := by unfold anc; rw [hA, hB]
                rw [HFI.out, HDR.out, List.cons_append, List.filterMap_cons, e])
              clear hA hB HCA HCB
              go_wp2_with (at_lookup; refine wpList_lookup_sp rfl _ _ rfl rfl HPZ.out z HI.out rfl _ _ HS0.out HS1.out ?_)
              refine HC1.out.mono ?_
              rintro e w3 ⟨rfl, hw3⟩
              rw [hw3]
              clear hw3 w3
              unfold atW
              go_wp2_with fail
              refine HC2.out.mono ?_
              rintro e w3 ⟨rfl, hw3⟩
              rw [hw3]
              clear hw3 w3
              unfold atW
              go_wp2
              go_roundw
              case rel => exact ⟨i + 1, P2, by omega, by push_cast; rfl, by omega, HFN, HOS, HBS2⟩
              case measure => simp [intOf]; omega
          | some xa =>
            cases hB : one (pl z true) y0 y1 with
            | none =>
              have HC1 : Hid (Calls Try.prog 34 #[.slice a8 L8 c8, .int .i64 x0, .int .i64 x1] (atW wr (.slice a8 L8 c8) (.slice a9 L9 c9)) fun e w' => e = .returned (.tuple #[.int .i64 xa, .bool true]) ∧ w' = atW wr (.slice a8 L8 c8) (.slice a9 L9 c9)) := hid (by have h := HCA.out; rw [hA] at h; exact h)
              have HC2 : Hid (Calls Try.prog 34 #[.slice a9 L9 c9, .int .i64 y0, .int .i64 y1] (atW wr (.slice a8 L8 c8) (.slice a9 L9 c9)) fun e w' => e = .returned (.tuple #[.int .i64 0, .bool false]) ∧ w' = atW wr (.slice a8 L8 c8) (.slice a9 L9 c9)) := hid (by have h := HCB.out; rw [hB] at h; exact h)
              have HFN : Hid (F = P2 ++ (l.drop (i + 1) ++ (ls.drop (j + 1)).flatten).filterMap (anc pl x0 y0 x1 y1)) := hid (by
                have e : anc pl x0 y0 x1 y1 z = none := by unfold anc; rw [hA, hB]
                rw [HFI.out, HDR.out, List.cons_append, List.filterMap_cons, e])
              clear hA hB HCA HCB
              go_wp2_with (at_lookup; refine wpList_lookup_sp rfl _ _ rfl rfl HPZ.out z HI.out rfl _ _ HS0.out HS1.out ?_)
              refine HC1.out.mono ?_
              rintro e w3 ⟨rfl, hw3⟩
              rw [hw3]
              clear hw3 w3
              unfold atW
              go_wp2_with fail
              refine HC2.out.mono ?_
              rintro e w3 ⟨rfl, hw3⟩
              rw [hw3]
              clear hw3 w3
              unfold atW
              go_wp2
              go_roundw
              case rel => exact ⟨i + 1, P2, by omega, by push_cast; rfl, by omega, HFN, HOS, HBS2⟩
              case measure => simp [intOf]; omega
            | some ya =>
              have HOW := hid (own_stays HOI.out (HAP.out xa ya))
              have HAB : Hid (((wr.alloc (Obj.cells #[.slice a8 L8 c8, .slice a9 L9 c9] 63)).alloc (Obj.cells #[.int .i64 xa, .int .i64 ya] 27)).heap[wr.heap.size + 1]? = some (.cells #[.int .i64 xa, .int .i64 ya] 27)) := hid (by simpa using heap_alloc_new (wr.alloc (Obj.cells #[.slice a8 L8 c8, .slice a9 L9 c9] 63)) (Obj.cells #[.int .i64 xa, .int .i64 ya] 27))
              have HBS : Hid (w1.heap.size ≤ ((wr.alloc (Obj.cells #[.slice a8 L8 c8, .slice a9 L9 c9] 63)).alloc (Obj.cells #[.int .i64 xa, .int .i64 ya] 27)).heap.size) := hid (Nat.le_trans HBI.out.size (HAP.out xa ya).size)
              have HC1 : Hid (Calls Try.prog 34 #[.slice a8 L8 c8, .int .i64 x0, .int .i64 x1] (atW wr (.slice a8 L8 c8) (.slice a9 L9 c9)) fun e w' => e = .returned (.tuple #[.int .i64 xa, .bool true]) ∧ w' = atW wr (.slice a8 L8 c8) (.slice a9 L9 c9)) := hid (by have h := HCA.out; rw [hA] at h; exact h)
              have HC2 : Hid (Calls Try.prog 34 #[.slice a9 L9 c9, .int .i64 y0, .int .i64 y1] (atW wr (.slice a8 L8 c8) (.slice a9 L9 c9)) fun e w' => e = .returned (.tuple #[.int .i64 ya, .bool true]) ∧ w' = atW wr (.slice a8 L8 c8) (.slice a9 L9 c9)) := hid (by have h := HCB.out; rw [hB] at h; exact h)
              have HFN : Hid (F = (P2 ++ [(xa, ya)]) ++ (l.drop (i + 1) ++ (ls.drop (j + 1)).flatten).filterMap (anc pl x0 y0 x1 y1)) := hid (by
                have e : anc pl x0 y0 x1 y1 z = some (xa, ya) := by unfold anc; rw [hA, hB]
                rw [HFI.out, HDR.out, List.cons_append, List.filterMap_cons, e, List.append_assoc]; rfl)
              clear hA hB HCA HCB
              go_wp2_with (at_lookup; refine wpList_lookup_sp rfl _ _ rfl rfl HPZ.out z HI.out rfl _ _ HS0.out HS1.out ?_)
              refine HC1.out.mono ?_
              rintro e w3 ⟨rfl, hw3⟩
              rw [hw3]
              clear hw3 w3
              unfold atW
              go_wp2_with fail
              refine HC2.out.mono ?_
              rintro e w3 ⟨rfl, hw3⟩
              rw [hw3]
              clear hw3 w3
              unfold atW
              go_wp2_with (at_builtin; refine wpList_append_pr rfl _ _ rfl w1.heap.size _ P2 rfl HOW.out (wr.heap.size + 1) xa ya rfl HAB.out HPL.out HBS.out ?_; intro v' w4 hO4 hg4; have HO4 := hid hO4; have HB4 := hid ((HBI.out.trans ((HAP.out xa ya).mono HBI.out.size)).grown hg4 HBS.out (fun q hq => (HGE.out q hq).1)); clear hO4 hg4)
              go_roundw
              case rel => exact ⟨i + 1, P2 ++ [(xa, ya)], by omega, by push_cast; rfl, by rw [List.length_append, List.length_singleton]; omega, HFN, HO4, HB4⟩
              case measure => simp [intOf]; omega
        · obtain rfl : i = L := by omega
          have HFE : Hid (F = P2 ++ (ls.drop (j + 1)).flatten.filterMap (anc pl x0 y0 x1 y1)) := hid (by
            rw [HFI.out, HL.out, List.drop_length, List.nil_append])
          go_wp2
          go_roundw
          case rel => exact ⟨j + 1, P2, by omega, by push_cast; rfl, by omega, HFE, HOI, HBI⟩
          case measure => simp [intOf]; omega
    · obtain rfl : j = N := by omega
      have HFE : Hid (F = P) := hid (by
        rw [HFJ.out, HLEN.out, List.drop_length]
        simp)
      have hPb : P.length ≤ 1000000000 := by omega
      by_cases hP0 : P = []
      · subst hP0
        obtain ⟨a5, c5, e5⟩ := (own_rd HOJ.out).shape
        rw [List.length_nil] at e5
        subst e5
        go_wp2_with fail
        refine (sort_nil a5 c5 _).mono ?_
        rintro e w5 ⟨rfl, rfl⟩
        go_wp2_with fail
        refine (compact_same (l := []) (.inl ⟨rfl, a5, c5, rfl⟩) (by simp) (fun i x y h => by simp at h)).mono ?_
        rintro e w6 ⟨rfl, q, rfl⟩
        go_wp2
        go_ret
        exact ⟨_, [], rfl, by rw [HFE.out], fun i j x y _ h => by simp at h, .inl ⟨rfl, a5, c5, rfl⟩, below_drewN (HBA.out.trans (HBJ.out.mono HBA.out.size)) q⟩
      · obtain ⟨a5, c5, e5⟩ := (own_rd HOJ.out).shape
        have hPp := List.length_pos_iff.2 hP0
        obtain ⟨Lp, hLp⟩ : ∃ Lp, Lp = P.length := ⟨_, rfl⟩
        have HO5 : Hid (OwnPr wr w1.heap.size (.slice a5 P.length c5) P) := hid (by rw [← e5]; exact HOJ.out)
        obtain ⟨g5, e6⟩ := own_some' HO5.out hPp
        rw [e6] at HO5 e5
        have HSRT := hid (sort_any HO5.out hPb)
        have HC5 : Hid (P.length ≤ c5) := hid (rd_cap (own_rd HO5.out))
        have HG5 := hid (own_ge2 HO5.out g5 rfl)
        subst e5
        rw [← hLp] at HSRT ⊢
        have HLP := hid hLp
        clear e6 hPp hP0 hLp
        go_wp2_with fail
        refine HSRT.out.mono ?_
        rintro e w5 ⟨rfl, P', hp, hso, hH, hg⟩
        have hPl : P'.length = Lp := by rw [hp.length_eq, HLP.out]
        have HSO5 := hid hso
        have HPP := hid hp
        have HB5 := hid (HBJ.out.grown hg HBJ.out.size (fun q hq => by cases hq; exact HG5.out.1))
        have HRP := hid (rd_of_holds (c := c5) hH (Nat.lt_of_lt_of_le HG5.out.2 hg.size) (by rw [hPl, HLP.out]; exact HC5.out))
        have HCM := hid (compact_same HRP.out (by rw [hPl, HLP.out]; exact hPb) (fun i x y hx hy => nodup_next (hp.nodup_iff.2 (by rw [← HFE.out]; exact HND.out)) i x y hx hy))
        rw [hPl] at HCM
        clear hp hso hH hg
        go_wp2_with fail
        refine HCM.out.mono ?_
        rintro e w6 ⟨rfl, q, rfl⟩
        go_wp2
        go_ret
        exact ⟨_, P', rfl, by rw [HFE.out]; exact HPP.out, HSO5.out, by have h := HRP.out; unfold RdP at h; rw [hPl] at h; show RdX _ _ _ _; rw [hPl]; exact h, below_drewN (HBA.out.trans (HB5.out.mono HBA.out.size)) q⟩
end Go.Proofs.Ytdilmgcdebobaaa
