/-
  The walk of the document's Slide.
-/
import Derived.Test.YtmomeemkdfoklaaDoorZy
namespace Go.Proofs.YtmomeemkdfoklaaDoor
open Go.RowKit
open Ed (Ch Run Pr)

theorem val_lenR : ∀ (l : List Ch) {x y n m : Int}, Ed.val l x y n m = true → x ≤ n → y ≤ m → (l.length : Int) ≤ (n - x) + (m - y)
  | [], x, y, n, m, _, h1, h2 => by simp; omega
  | c :: r, x, y, n, m, h, h1, h2 => by
    obtain ⟨⟨k1, k2, k3, k4⟩, k5⟩ := Ed.val_cons.1 h
    have := val_lenR r k5 (by omega) (by omega)
    rw [List.length_cons]
    omega
theorem own_sameR {w w' : World} {B n sz : Nat} {t : TypeId} {v : Value} {xs : List Value} (h : w.ownsRow B t sz v n xs) (hb : ∀ j, j < w.heap.size → v.ownBlock = some j → w'.heap[j]? = w.heap[j]?) : w'.ownsRow B t sz v n xs := by
  obtain ⟨h1, h2⟩ := h
  refine ⟨h1, ?_⟩
  rcases h2 with h2 | ⟨g, cap, cur, hv, hg, hh, hr⟩
  · exact .inl h2
  · subst hv
    exact .inr ⟨g, cap, cur, rfl, hg, (hb g (lt_of_heap hh) rfl).trans hh, hr⟩

theorem wpList_append_chG {w : World} {ops : Array Oper} {rest : List Oper} {o : Oper} {a : Act} {Q : Exit → Act → World → Prop} (hgd : o.guard = none) (s x : Operand)
    (ho : o.op = .call { callee := .builtin .append, args := #[s, x], argTypes := #[22, 22] }) (B : Nat) (v : Value) (l : List Ch) (hs : a.eval s = v) (hown : OwnC w B v l)
    (g : Nat) (c : Ch) (hx : a.eval x = .slice (some ⟨g, 0, none⟩) 1 1) (hg : w.heap[g]? = some (.cells #[.int .i64 c.a, .int .i64 c.n, .int .i64 c.b, .int .i64 c.m] 42)) (hfit : l.length ≤ 1000000000) (hB : B ≤ w.heap.size)
    (h : ∀ v' w', OwnC w' B v' (l ++ [c]) → w.grownBy w' v.ownBlock → wpList Tryd.prog ops Q rest (a.put o.dst v') w') : wpList Tryd.prog ops Q (o :: rest) a w := by
  obtain ⟨i0, hi, hz0, hz1, hz2⟩ := info_parts Tryd.infoChange
  refine wpList_append_lies _ hgd s x 22 ho B 42 i0 (.agg #[.int .i64 0, .int .i64 0, .int .i64 0, .int .i64 0]) 4 32 Tryd.underlying22 hi hz0 hz1 hz2 rfl (by decide) v l.length (csC l) hs hown ⟨g, 0, none⟩ 1 1 (cC c) hx rfl ?_ ?_ (by decide) ?_ ?_ hB w.heap.size rfl ?_
  · exact World.news_of_block (cs := #[.int .i64 c.a, .int .i64 c.n, .int .i64 c.b, .int .i64 c.m]) hg
  · have := csC_one [c]
    simpa [csC] using this
  · unfold maxLen; omega
  · omega
  · intro g' cap w' g2 g3 _ _
    refine h _ w' ?_ g3
    show w'.ownsRow _ _ _ _ _ _
    rw [List.length_append, csC_append]
    have e : csC [c] = cC c := by simp [csC]
    rw [e]; exact g2
/-- an element of a row of changes written over -/
def set4R (w : World) (g k : Nat) (c : Ch) : World := (((w.setCell ⟨g, k * 4, none⟩ (.int .i64 c.a)).setCell ⟨g, k * 4 + 1, none⟩ (.int .i64 c.n)).setCell ⟨g, k * 4 + 2, none⟩ (.int .i64 c.b)).setCell ⟨g, k * 4 + 3, none⟩ (.int .i64 c.m)
theorem own_setCR {w : World} {B g n c k : Nat} {l : List Ch} (h : w.ownsRow B 42 4 (.slice (some ⟨g, 0, none⟩) n c) n (csC l)) (z : Ch) (hk : k < l.length) : (set4R w g k z).ownsRow B 42 4 (.slice (some ⟨g, 0, none⟩) n c) n (csC (l.set k z)) := by
  obtain ⟨h1, h2⟩ := h
  rcases h2 with ⟨hv, _⟩ | ⟨g', cap, cur, hv, hg, hh, hc, hm, hsz, ht⟩
  · cases hv
  · cases hv
    refine ⟨by rw [csC_length, List.length_set, ← csC_length]; exact h1, .inr ⟨g, c, _, rfl, hg, set_heap _ g (k * 4 + 3) _ _ _ (set_heap _ g (k * 4 + 2) _ _ _ (set_heap _ g (k * 4 + 1) _ _ _ (set_heap _ g (k * 4) _ _ _ hh))), hc, hm, by simpa using hsz, ?_⟩⟩
    rw [← csC_set l k z hk, ← ht]
    simp only [Array.toList_setIfInBounds, List.take_set]
theorem own_someR {w : World} {B n c : Nat} {t : TypeId} {sz : Nat} {a : Option Addr} {xs : List Value} (h : w.ownsRow B t sz (.slice a n c) n xs) (hn : 0 < n) : ∃ g, a = some ⟨g, 0, none⟩ := by
  rcases h.2 with ⟨hv, h0⟩ | ⟨g, cap, cur, hv, _⟩
  · omega
  · cases hv; exact ⟨g, rfl⟩
theorem own_frozenR {w : World} {B n c g : Nat} {t : TypeId} {sz : Nat} {xs : List Value} (h : w.ownsRow B t sz (.slice (some ⟨g, 0, none⟩) n c) n xs) (o : Nat) : w.frozen? ⟨g, o, none⟩ = false := by
  rcases h.2 with ⟨hv, hn⟩ | ⟨g', cap, cur, hv, hg, hh, _⟩
  · cases hv
  · cases hv; exact frozen_of_blk hh o
theorem set4R_other {W : World} {g k j : Nat} {c : Ch} (h : j ≠ g) : (set4R W g k c).heap[j]? = W.heap[j]? := (set_other _ h).trans ((set_other _ h).trans ((set_other _ h).trans (set_other _ h)))
theorem set4R_below {W w : World} {B g k : Nat} {c : Ch} (h : Below B w W) (hg : B ≤ g) : Below B w (set4R W g k c) := (((h.setCell (p := ⟨g, k * 4, none⟩) hg _).setCell (p := ⟨g, k * 4 + 1, none⟩) hg _).setCell (p := ⟨g, k * 4 + 2, none⟩) hg _).setCell (p := ⟨g, k * 4 + 3, none⟩) hg _
theorem rev_set (d e : Ch) (t : List Ch) : (d :: t).reverse.set t.length e = (e :: t).reverse := by
  rw [List.reverse_cons, List.reverse_cons, List.set_append_right _ _ (by simp)]
  simp
theorem rev_last (d : Ch) (t : List Ch) : (d :: t).reverse[t.length]? = some d := by
  rw [List.reverse_cons, List.getElem?_append_right (by simp)]
  simp

set_option maxHeartbeats 8000000 in
set_option maxRecDepth 100000 in
theorem refSlide_good {w : World} {v va vb : Value} {s : List Ch} {a b : List Int} (hr : RdC w v s) (hwf : ∀ c ∈ s, WfC c) (hl : s.length ≤ 10000000000000) (ha : RdI w va a) (hb : RdI w vb b) (hfit : fitN s a b = 0) :
    Calls Tryd.prog 15 #[v, va, vb] w fun e w' => ∃ v', e = .returned (.tuple #[v', .int .i64 0]) ∧ OwnC w' w.heap.size v' (Ed.slideL a b (Ed.normal s a.length b.length)) ∧ Below w.heap.size w w' := by
  have HF := hid (refFits_all hr hwf hl ha hb)
  rw [hfit] at HF
  obtain ⟨av, cv, rfl⟩ := ha.shape
  obtain ⟨au, cu, rfl⟩ := hb.shape
  obtain ⟨ah, ch, rfl⟩ := hr.shape
  have HR := hid hr
  have HA := hid ha
  have HB := hid hb
  have HWF := hid hwf
  have hval : Ed.validN s a.length b.length = 0 := by
    unfold fitN at hfit
    split at hfit
    · assumption
    · exact absurd hfit (by assumption)
  obtain ⟨l, hlE⟩ : ∃ l, l = Ed.normal s a.length b.length := ⟨_, rfl⟩
  rw [← hlE]
  have hV : Ed.Val s a.length b.length := Ed.validN_zero.1 hval
  have hNV := Ed.normal_Val hV
  rw [← hlE] at hNV
  have hft : Ed.fitsP a b (Ed.prs l a.length 0 0) = true := by
    rw [hNV.2]
    unfold fitN at hfit
    rw [if_pos hval] at hfit
    split at hfit
    · assumption
    · cases hfit
  have ha1 := Ed.cnt_iff.1 hV.1
  have hb1 := Ed.cnt_iff.1 hV.2.1
  have hlen : l.length ≤ 10000000 := by
    have := val_lenR l hNV.1.2.2 (by omega) (by omega)
    omega
  have HVL := hid hNV.1.2.2
  have HFT := hid hft
  have hla : a.length ≤ 4194304 := by omega
  have hlb : b.length ≤ 4194304 := by omega
  have hnrm : nrmA s a.length b.length = l := by unfold nrmA; rw [if_pos hval, hlE]
  have HN : Hid (∀ w1, Below w.heap.size w w1 → Calls Tryd.prog 26 #[.slice ah s.length ch, .int .i64 (a.length : Int), .int .i64 (b.length : Int)] w1 fun e w' => ∃ v', e = .returned (.tuple #[v', .int .i64 0]) ∧ OwnC w' w1.heap.size v' l ∧ Below w1.heap.size w1 w') := hid (fun w1 hb1 => by
    have h := refNormal_all (n := a.length) (m := b.length) (HR.out.below hb1) HWF.out hl
    rw [hval, hnrm] at h
    exact h)
  clear hr hwf ha hb hlE hV hNV hft ha1 hb1 hnrm hval hfit
  obtain ⟨NA, hNA⟩ : ∃ NA, NA = a.length := ⟨_, rfl⟩
  obtain ⟨NB, hNB⟩ : ∃ NB, NB = b.length := ⟨_, rfl⟩
  obtain ⟨n, hn⟩ : ∃ n, n = l.length := ⟨_, rfl⟩
  go_enter Tryd.func15, Tryd.ntmps15
  go_wp2_with fail
  refine HF.out.mono ?_
  rintro e w1 ⟨rfl, hb1⟩
  have HB1 := hid hb1
  clear hb1
  go_wp2_with fail
  refine (HN.out _ HB1.out).mono ?_
  rintro e w2 ⟨v2, rfl, hO2, hb2⟩
  obtain ⟨A, cap, rfl⟩ := own_shape hO2
  have HL2 : Hid (RdC w2 (.slice A l.length cap) l) := hid (own_rd hO2)
  have HB2 := hid (HB1.out.trans (hb2.mono HB1.out.size))
  have HLA : Hid (RdI w2 (.slice av a.length cv) a) := hid (HA.out.below HB2.out)
  have HLB : Hid (RdI w2 (.slice au b.length cu) b) := hid (HB.out.below HB2.out)
  have HNA := hid hNA
  have HNB := hid hNB
  have HNN := hid hn
  rw [← hNA] at HLA hla
  rw [← hNB] at HLB hlb
  rw [← hn] at HL2 hlen
  rw [← hNA, ← hNB, ← hn]
  clear hO2 hb2 HN HF HB1 HA HB HR HWF hNA hNB hn hl
  have i0 : IntKind.i64.wrap ((n : Int) - 1) = (n : Int) - 1 := wrapOk (by omega) (by omega)
  go_wp2
  go_loopw [11, 12, 13, 14, 15, 16] (fun v11 v12 v13 v14 _ _ wr => ∃ k : Nat, k ≤ n ∧ v14 = .int .i64 ((n : Int) - 1 - k) ∧ v12 = .int .i64 (Ed.nx a b (Ed.slideL a b (l.drop (n - k)))).a ∧ v13 = .int .i64 (Ed.nx a b (Ed.slideL a b (l.drop (n - k)))).b ∧ Hid (OwnC wr w2.heap.size v11 (Ed.slideL a b (l.drop (n - k))).reverse) ∧ Hid (Below w2.heap.size w2 wr)) (fun _ _ _ v14 _ _ _ => (intOf v14 + 1).toNat)
  case atStart => exact ⟨0, Nat.zero_le _, by simp, by rw [Nat.sub_zero, HNN.out, List.drop_length, HNA.out]; rfl, by rw [Nat.sub_zero, HNN.out, List.drop_length, HNB.out]; rfl, hid (by rw [Nat.sub_zero, HNN.out, List.drop_length]; exact World.ownsRow_nil _ _ _ _), hid (Below.refl _ _)⟩
  case round =>
    obtain ⟨k, hk, rfl, rfl, rfl, HO, HBr⟩ := hrel
    obtain ⟨wo, hwo⟩ : ∃ wo, wo = wr := ⟨_, rfl⟩
    subst hwo
    by_cases hlt : k < n
    · obtain ⟨i, hi⟩ : ∃ i, i = n - 1 - k := ⟨_, rfl⟩
      have e1 : (n : Int) - 1 - (k : Int) = (i : Int) := by omega
      rw [e1]
      rw [show n - k = i + 1 by omega] at HO ⊢
      obtain ⟨c, hc⟩ : ∃ c, l[i]? = some c := ⟨_, List.getElem?_eq_getElem (by have := HNN.out; omega)⟩
      have hok := Ed.rd_ok HVL.out HFT.out hc
      have HST := hid (Ed.slide_step (a := a) (b := b) hc)
      have hol := Ed.slide_len a b (l.drop (i + 1))
      rw [List.length_drop, ← HNN.out] at hol
      obtain ⟨out, hout⟩ : ∃ out, out = Ed.slideL a b (l.drop (i + 1)) := ⟨_, rfl⟩
      rw [← hout] at HO hok HST hol ⊢
      obtain ⟨bb, oo, eA, hbb, p0, p1, p2, p3⟩ := rdC_at (HNN.out ▸ HL2.out) hc
      subst eA
      rcases c with ⟨cA, cN, cB, cM⟩
      obtain ⟨o1, o2, o3, o4, o5, o6, o7, o8, o9, o10, o11, o12⟩ := hok
      obtain ⟨N0, hN0⟩ : ∃ N0, N0 = Ed.nx a b out := ⟨_, rfl⟩
      rw [← hN0] at o5 o6 o7 o9 o10 o11 o12 HST ⊢
      rcases N0 with ⟨nA, nN, nB, nM⟩
      simp only at o1 o2 o3 o4 o5 o6 o7 o8 o9 o10 o11 o12 p0 p1 p2 p3
      obtain ⟨xA, rfl⟩ : ∃ x : Nat, cA = (x : Int) := ⟨cA.toNat, by omega⟩
      obtain ⟨xN, rfl⟩ : ∃ x : Nat, cN = (x : Int) := ⟨cN.toNat, by omega⟩
      obtain ⟨xB, rfl⟩ : ∃ x : Nat, cB = (x : Int) := ⟨cB.toNat, by omega⟩
      obtain ⟨xM, rfl⟩ : ∃ x : Nat, cM = (x : Int) := ⟨cM.toNat, by omega⟩
      obtain ⟨yA, rfl⟩ : ∃ x : Nat, nA = (x : Int) := ⟨nA.toNat, by omega⟩
      obtain ⟨yB, rfl⟩ : ∃ x : Nat, nB = (x : Int) := ⟨nB.toNat, by omega⟩
      obtain ⟨K, hK1, hK2, hK3, hK4⟩ := slid_far (a := a) (b := b) (xA := xA) (xN := xN) (xB := xB) (xM := xM) (yA := yA) (yB := yB) (by omega) (by omega) (by omega) (by omega)
      have d0 := (HBr.out.cell (p := ⟨bb, oo + i * 4, none⟩) hbb).trans p0
      have d1 := (HBr.out.cell (p := ⟨bb, oo + i * 4 + 1, none⟩) hbb).trans p1
      have d2 := (HBr.out.cell (p := ⟨bb, oo + i * 4 + 2, none⟩) hbb).trans p2
      have d3 := (HBr.out.cell (p := ⟨bb, oo + i * 4 + 3, none⟩) hbb).trans p3
      have j1 : (0 : Int) ≤ (i : Int) := by omega
      have j2 : (i : Int) < (n : Int) := by omega
      have j4 : IntKind.i64.wrap ((i : Int) - 1) = (i : Int) - 1 := wrapOk (by omega) (by omega)
      have HK1 := hid hK1
      have HK4 := hid hK4
      have HN0 := hid hN0
      have HI := hid hi
      obtain ⟨Bx, hBx⟩ : ∃ Bx, Bx = wo.heap.size := ⟨_, rfl⟩
      obtain ⟨w3, hw3⟩ : ∃ w3, w3 = wo.alloc (Obj.cells #[.int .i64 (xA : Int), .int .i64 (xN : Int), .int .i64 (xB : Int), .int .i64 (xM : Int)] 42) := ⟨_, rfl⟩
      have x0 : w3.heap[Bx]? = some (chC ⟨((xA + 0 : Nat) : Int), xN, ((xB + 0 : Nat) : Int), xM⟩) := by rw [hw3, hBx]; exact heap_alloc_new wo _
      have b23 : Below wo.heap.size wo w3 := by rw [hw3]; exact (Below.refl _ _).alloc (Nat.le_refl _) _
      have HX0 := hid x0
      have HB23 := hid b23
      have HBX := hid hBx
      have HW3 := hid hw3
      have hs3 : w3.heap.size = Bx + 1 := by rw [hw3, hBx]; simp
      clear hc hout p0 p1 p2 p3 hK1 hK4 hN0 hi e1 x0 b23 hBx hw3
      go_upto_region 11 with fail
      rw [← HW3.out, ← HBX.out]
      go_loopg [] K (fun kk wx => ∃ t : Nat, t ≤ K ∧ kk = K - t ∧ Hid (wx.heap[Bx]? = some (chC ⟨((xA + t : Nat) : Int), xN, ((xB + t : Nat) : Int), xM⟩)) ∧ Hid (Kept (fun j => j = Bx) w3 wx))
      case atStart => exact ⟨0, Nat.zero_le _, rfl, HX0, hid (Kept.refl _ _)⟩
      case round =>
        obtain ⟨t, ht, hkk, HX, HKx⟩ := hrel
        have hszr := HBr.out.size
        have hbx := HBX.out
        have HBx2 : Hid (Below w2.heap.size w2 wr) := hid ((HBr.out.trans (HB23.out.mono HBr.out.size)).trans (HKx.out.below (fun j e => by omega) (by omega)))
        obtain ⟨XA, hXA⟩ : ∃ XA, XA = xA + t := ⟨_, rfl⟩
        obtain ⟨XB, hXB⟩ : ∃ XB, XB = xB + t := ⟨_, rfl⟩
        have hs4 := HK4.out t ht
        rw [← hXA, ← hXB] at HX hs4
        have HSL := hid (slides_any (w := wr) (cA := XA) (cN := xN) (cB := XB) (cM := xM) (nA := yA) (nB := yB) (HNA.out ▸ HLA.out.below HBx2.out) (HNB.out ▸ HLB.out.below HBx2.out) (by omega) (by omega) (by have := HNA.out; omega) (by have := HNB.out; omega))
        rw [hs4] at HSL
        have q0 : wr.cell? ⟨Bx, 0, none⟩ = some (.int .i64 XA) := cell_of_blk HX.out 0
        have q1 : wr.cell? ⟨Bx, 1, none⟩ = some (.int .i64 xN) := cell_of_blk HX.out 1
        have q2 : wr.cell? ⟨Bx, 2, none⟩ = some (.int .i64 XB) := cell_of_blk HX.out 2
        have q3 : wr.cell? ⟨Bx, 3, none⟩ = some (.int .i64 xM) := cell_of_blk HX.out 3
        have HXA := hid hXA
        have HXB := hid hXB
        clear hXA hXB hs4 hbx hszr
        rw [← HNA.out, ← HNB.out] at HSL
        go_wp2_with fail
        refine HSL.out.mono ?_
        rintro e w5 ⟨rfl, hb5⟩
        have hBxl := lt_of_heap HX.out
        have x5 : w5.heap[Bx]? = _ := (hb5.block Bx hBxl).trans HX.out
        have HX5 := hid x5
        have HK5 : Hid (Kept (fun j => j = Bx) w3 w5) := hid (HKx.out.step (Kept.of_below (X := fun _ => False) hb5) (fun _ e => e.elim))
        have HB5 : Hid (Below w2.heap.size w2 w5) := hid (HBx2.out.trans (hb5.mono HBx2.out.size))
        have q0 : w5.cell? ⟨Bx, 0, none⟩ = some (.int .i64 XA) := cell_of_blk x5 0
        have q1 : w5.cell? ⟨Bx, 1, none⟩ = some (.int .i64 xN) := cell_of_blk x5 1
        have q2 : w5.cell? ⟨Bx, 2, none⟩ = some (.int .i64 XB) := cell_of_blk x5 2
        have q3 : w5.cell? ⟨Bx, 3, none⟩ = some (.int .i64 xM) := cell_of_blk x5 3
        have qf := fun o => frozen_of_blk x5 o
        clear hb5 x5 HSL HX HKx HBx2
        by_cases htK : t < K
        · rw [decide_eq_true htK]
          have m1 : IntKind.i64.wrap ((XA : Int) + 1) = (XA : Int) + 1 := wrapOk (by omega) (by have := HXA.out; have := HNA.out; omega)
          have m2 : IntKind.i64.wrap ((XB : Int) + 1) = (XB : Int) + 1 := wrapOk (by omega) (by have := HXB.out; have := HNB.out; omega)
          have HXN : Hid (((w5.setCell ⟨Bx, 0, none⟩ (.int .i64 ((XA : Int) + 1))).setCell ⟨Bx, 2, none⟩ (.int .i64 ((XB : Int) + 1))).heap[Bx]? = some (chC ⟨(XA : Int) + 1, xN, (XB : Int) + 1, xM⟩)) := hid (set_heap _ Bx 2 _ _ _ (set_heap _ Bx 0 _ _ _ HX5.out))
          have HKN : Hid (Kept (fun j => j = Bx) w3 ((w5.setCell ⟨Bx, 0, none⟩ (.int .i64 ((XA : Int) + 1))).setCell ⟨Bx, 2, none⟩ (.int .i64 ((XB : Int) + 1)))) := hid ((HK5.out.set rfl _).set rfl _)
          go_wp2
          go_roundg (K - (t + 1))
          case measure => omega
          case rel =>
            refine ⟨t + 1, by omega, rfl, ?_, HKN⟩
            have e1 := HXA.out
            have e2 := HXB.out
            rw [show xA + (t + 1) = XA + 1 by omega, show xB + (t + 1) = XB + 1 by omega]
            exact HXN
        · rw [decide_eq_false htK]
          obtain rfl : t = K := by omega
          have HO5 : Hid (OwnC w5 w2.heap.size u11 out.reverse) := hid (own_sameR HO.out (fun j hj _ => ((HK5.out.block j (by have := HBX.out; omega) (by have := HBX.out; omega)).trans (HB23.out.block j hj))))
          have hBxl5 : Bx < w5.heap.size := lt_of_heap HX5.out
          have HNB5 : Hid (u11.ownBlock ≠ some Bx) := hid (fun e => by
            have h := HO.out.2
            rcases h with ⟨hv, _⟩ | ⟨g', cap', cur, hv, hg', hh, _⟩
            · rw [hv] at e; cases e
            · rw [hv] at e; have e2 : g' = Bx := Option.some.inj e; have := lt_of_heap hh; have := HBX.out; omega)
          have HRL : Hid (out.reverse.length ≤ 10000000) := hid (by rw [List.length_reverse]; omega)
          obtain ⟨A5, c5, e5⟩ := own_shape HO5.out
          subst e5
          obtain ⟨R, hR⟩ : ∃ R, R = out.reverse := ⟨_, rfl⟩
          obtain ⟨LR, hLR⟩ : ∃ LR, LR = R.length := ⟨_, rfl⟩
          have HLO : Hid (LR = out.length) := hid (by rw [hLR, hR, List.length_reverse])
          rw [← hR] at HO5 HNB5 HRL
          rw [← hLR] at HO5 HNB5 HRL
          rw [← hR, ← hLR]
          have HRR := hid hR
          have HLR := hid hLR
          clear hR hLR
          have HSTEP : Hid (Ed.slideL a b (l.drop i) = Ed.put1 ⟨XA, xN, XB, xM⟩ out) := hid (by
            have h := HST.out
            try dsimp only at h
            rw [h, HK1.out]
            unfold Ed.mv
            have e1 := HXA.out
            have e2 := HXB.out
            rw [show ((xA : Int) + (t : Int)) = (XA : Int) by omega, show ((xB : Int) + (t : Int)) = (XB : Int) by omega])
          have w8 : IntKind.i64.wrap ((XA : Int) + (xN : Int)) = (XA : Int) + (xN : Int) := wrapOk (by omega) (by have := HXA.out; have := HNA.out; omega)
          clear htK hkk ht HO HST HK1 HX0
          cases out with
          | nil =>
            obtain rfl : LR = 0 := HLO.out
            obtain rfl : R = [] := List.length_eq_zero_iff.1 HLR.out.symm
            have HBA : Hid (Below w5.heap.size w5 (w5.alloc (Obj.cells #[.int .i64 (XA : Int), .int .i64 (xN : Int), .int .i64 (XB : Int), .int .i64 (xM : Int)] 42))) := hid ((Below.refl _ _).alloc (Nat.le_refl _) _)
            have HGE := hid (own_ge HO5.out)
            have HBXA : Hid ((w5.alloc (Obj.cells #[.int .i64 (XA : Int), .int .i64 (xN : Int), .int .i64 (XB : Int), .int .i64 (xM : Int)] 42)).heap[Bx]? = some (chC ⟨XA, xN, XB, xM⟩)) := hid ((HBA.out.block Bx hBxl5).trans HX5.out)
            have HSZ : Hid (w2.heap.size ≤ (w5.alloc (Obj.cells #[.int .i64 (XA : Int), .int .i64 (xN : Int), .int .i64 (XB : Int), .int .i64 (xM : Int)] 42)).heap.size) := hid (Nat.le_trans HB5.out.size HBA.out.size)
            go_wp2_with (at_builtin; refine wpList_append_chG rfl _ _ rfl w2.heap.size _ [] rfl (own_stays HO5.out HBA.out) w5.heap.size ⟨XA, xN, XB, xM⟩ rfl (heap_alloc_new w5 _) (by have := HRL.out; omega) HSZ.out ?_; intro v7 w7 hO7 hg7; have HO7 := hid hO7; have HB7 : Hid (Below w2.heap.size w2 w7) := hid ((HB5.out.trans (HBA.out.mono HB5.out.size)).grown hg7 HSZ.out (fun j e => HGE.out j e)); have x7 : w7.heap[Bx]? = some (chC ⟨XA, xN, XB, xM⟩) := (hg7.block Bx (by have := lt_of_heap HBXA.out; exact this) (fun e => HNB5.out e.symm)).trans HBXA.out; have r0 : w7.cell? ⟨Bx, 0, none⟩ = some (.int .i64 XA) := cell_of_blk x7 0; have r2 : w7.cell? ⟨Bx, 2, none⟩ = some (.int .i64 XB) := cell_of_blk x7 2; clear hO7 hg7)
            go_quiet (fail)
            go_wp2
            go_roundw
            case rel =>
              refine ⟨k + 1, by omega, ?_, ?_, ?_, ?_, hid (below_drewN HB7.out _)⟩
              · have h := HI.out
                rw [show (n : Int) - 1 - ((k + 1 : Nat) : Int) = (i : Int) - 1 by omega]
              · rw [show n - (k + 1) = i by have := HI.out; omega, HSTEP.out]; rfl
              · rw [show n - (k + 1) = i by have := HI.out; omega, HSTEP.out]; rfl
              · rw [show n - (k + 1) = i by have := HI.out; omega, HSTEP.out]
                exact hid (own_stays HO7.out (below_drewN (Below.refl _ _) _))
            case measure => simp [intOf]
          | cons d t' =>
            have hd : d = ⟨yA, nN, yB, nM⟩ := HN0.out.symm
            have l1 : (0 : Int) < (LR : Int) := by have h := HLO.out; rw [List.length_cons] at h; omega
            have l1' : 0 < LR := by have h := HLO.out; rw [List.length_cons] at h; omega
            by_cases hm : XA + xN = yA
            · have z1 : (((XA : Int) + (xN : Int)) == (yA : Int)) = true := by rw [beq_iff_eq]; omega
              have wy : IntKind.i64.wrap (yA : Int) = (yA : Int) := wrapOk (by omega) (by have := HNA.out; omega)
              have hye : (⟨XA, xN, XB, xM⟩ : Ch).a + (⟨XA, xN, XB, xM⟩ : Ch).n = d.a := by rw [hd]; simp only; omega
              obtain ⟨E, hE⟩ : ∃ E : Ch, E = ⟨XA, (xN : Int) + nN, XB, (xM : Int) + nM⟩ := ⟨_, rfl⟩
              clear hm
              have HED : Hid (E = ⟨XA, (xN : Int) + nN, XB, (xM : Int) + nM⟩) := hid hE
              have HOL : Hid (w5.ownsRow w2.heap.size 42 4 (.slice A5 LR c5) LR (csC R)) := hid (by have h := HO5.out; unfold OwnC at h; rw [← HLR.out] at h; exact h)
              obtain ⟨g5, e6⟩ := own_someR HOL.out l1'
              subst e6
              have HRC : Hid (RdC w5 (.slice (some ⟨g5, 0, none⟩) LR c5) R) := hid (own_rd HO5.out)
              obtain ⟨b6, o6, e7, _, m0, m1, m2, m3⟩ := rdC_at HRC.out (k := t'.length) (x := d) (by rw [HRR.out]; exact rev_last d t')
              cases e7
              rw [Nat.zero_add] at m0 m1 m2 m3
              rw [hd] at m0 m1 m2 m3
              simp only at m0 m1 m2 m3
              have hg5 : w2.heap.size ≤ g5 ∧ g5 ≠ Bx := ⟨own_ge HO5.out g5 rfl, fun e => HNB5.out (by rw [e]; rfl)⟩
              obtain ⟨hg51, hg52⟩ := hg5
              obtain ⟨w6, hw6⟩ : ∃ w6, w6 = w5.alloc (Obj.cells #[.int .i64 (yA : Int), .int .i64 nN, .int .i64 (yB : Int), .int .i64 nM] 42) := ⟨_, rfl⟩
              have b56 : Below w5.heap.size w5 w6 := by rw [hw6]; exact (Below.refl _ _).alloc (Nat.le_refl _) _
              have hg5l : g5 < w5.heap.size := by
                rcases HO5.out.2 with ⟨hv, _⟩ | ⟨g', cap', cur, hv, hg', hh, _⟩
                · cases hv
                · cases hv; exact lt_of_heap hh
              have y5 : w6.heap[w5.heap.size]? = some (Obj.cells #[.int .i64 (yA : Int), .int .i64 nN, .int .i64 (yB : Int), .int .i64 nM] 42) := by rw [hw6]; exact heap_alloc_new w5 _
              have v1 : w6.cell? ⟨w5.heap.size, 1, none⟩ = some (.int .i64 nN) := cell_of_blk y5 1
              have v3 : w6.cell? ⟨w5.heap.size, 3, none⟩ = some (.int .i64 nM) := cell_of_blk y5 3
              have yb : w6.heap[Bx]? = some (chC ⟨XA, xN, XB, xM⟩) := (b56.block Bx hBxl5).trans HX5.out
              have u0 : w6.cell? ⟨Bx, 0, none⟩ = some (.int .i64 XA) := cell_of_blk yb 0
              have u1 : w6.cell? ⟨Bx, 1, none⟩ = some (.int .i64 xN) := cell_of_blk yb 1
              have u2 : w6.cell? ⟨Bx, 2, none⟩ = some (.int .i64 XB) := cell_of_blk yb 2
              have u3 : w6.cell? ⟨Bx, 3, none⟩ = some (.int .i64 xM) := cell_of_blk yb 3
              have k0 := (b56.cell (p := ⟨g5, t'.length * 4, none⟩) hg5l).trans m0
              have k1 := (b56.cell (p := ⟨g5, t'.length * 4 + 1, none⟩) hg5l).trans m1
              have k2 := (b56.cell (p := ⟨g5, t'.length * 4 + 2, none⟩) hg5l).trans m2
              have k3 := (b56.cell (p := ⟨g5, t'.length * 4 + 3, none⟩) hg5l).trans m3
              have HO6 := hid (own_stays HOL.out b56)
              have rf := fun o => own_frozenR HO6.out o
              have HYB := hid yb
              have HB6 := hid (HB5.out.trans (b56.mono HB5.out.size))
              have hlt' : LR = t'.length + 1 := by have h := HLO.out; rw [List.length_cons] at h; exact h
              obtain ⟨LT, hLT⟩ : ∃ LT, LT = t'.length := ⟨_, rfl⟩
              rw [← hLT] at k0 k1 k2 k3 m0 m1 m2 m3
              have HLT := hid hLT
              have w9 : IntKind.i64.wrap ((LR : Int) - 1) = (LT : Int) := (wrapOk (by omega) (by have := HRL.out; omega)).trans (by omega)
              have wa : IntKind.i64.wrap ((xN : Int) + nN) = (xN : Int) + nN := wrapOk (by omega) (by have := HNA.out; omega)
              have wb : IntKind.i64.wrap ((xM : Int) + nM) = (xM : Int) + nM := wrapOk (by omega) (by have := HNB.out; omega)
              have i5 : (0 : Int) ≤ (LT : Int) := by omega
              have i6 : (LT : Int) < (LR : Int) := by omega
              have HW6 := hid hw6
              clear hE hw6 b56 y5 yb hlt' hLT
              go_upto_region 16 with fail
              rw [← HW6.out]
              go_wp2
              obtain ⟨w7, hw7⟩ : ∃ w7, w7 = (((w6.setCell ⟨g5, LT * 4, none⟩ (.int .i64 (XA : Int))).setCell ⟨g5, LT * 4 + 1, none⟩ (.int .i64 ((xN : Int) + nN))).setCell ⟨g5, LT * 4 + 2, none⟩ (.int .i64 (XB : Int))).setCell ⟨g5, LT * 4 + 3, none⟩ (.int .i64 ((xM : Int) + nM)) := ⟨_, rfl⟩
              rw [← hw7]
              have hw7' : w7 = set4R w6 g5 LT E := by rw [hw7, HED.out]; rfl
              have x7 : w7.heap[Bx]? = some (chC ⟨XA, xN, XB, xM⟩) := by rw [hw7']; exact (set4R_other (fun e => hg52 e.symm)).trans HYB.out
              have r0 : w7.cell? ⟨Bx, 0, none⟩ = some (.int .i64 XA) := cell_of_blk x7 0
              have r2 : w7.cell? ⟨Bx, 2, none⟩ = some (.int .i64 XB) := cell_of_blk x7 2
              have HB7 : Hid (Below w2.heap.size w2 w7) := hid (by rw [hw7']; exact set4R_below HB6.out hg51)
              have hLTR : LT < R.length := by rw [← HLR.out]; omega
              have HO7 : Hid (w7.ownsRow w2.heap.size 42 4 (.slice (some ⟨g5, 0, none⟩) LR c5) LR (csC (E :: t').reverse)) := hid (by
                have h := own_setCR HO6.out E hLTR
                rw [HRR.out, HLT.out, rev_set] at h
                rw [hw7', HLT.out]
                exact h)
              have HEL : Hid ((E :: t').reverse.length = LR) := hid (by rw [List.length_reverse, List.length_cons, HLO.out, List.length_cons])
              clear x7 hw7 hw7' hLTR
              go_quiet (fail)
              go_wp2
              go_roundw
              case rel =>
                refine ⟨k + 1, by omega, ?_, ?_, ?_, ?_, hid (below_drewN HB7.out _)⟩
                · have h := HI.out
                  rw [show (n : Int) - 1 - ((k + 1 : Nat) : Int) = (i : Int) - 1 by omega]
                · rw [show n - (k + 1) = i by have := HI.out; omega, HSTEP.out]; rw [Ed.put1_yes hye]; rfl
                · rw [show n - (k + 1) = i by have := HI.out; omega, HSTEP.out]; rw [Ed.put1_yes hye]; rfl
                · rw [show n - (k + 1) = i by have := HI.out; omega, HSTEP.out]
                  refine hid ?_
                  rw [Ed.put1_yes hye, show (⟨(⟨XA, xN, XB, xM⟩ : Ch).a, (⟨XA, xN, XB, xM⟩ : Ch).n + d.n, (⟨XA, xN, XB, xM⟩ : Ch).b, (⟨XA, xN, XB, xM⟩ : Ch).m + d.m⟩ : Ch) = E by rw [HED.out, hd]]
                  show World.ownsRow _ _ _ _ _ _ _
                  rw [HEL.out]
                  exact own_stays HO7.out (below_drewN (Below.refl _ _) _)
              case measure => simp [intOf]
            · have z1 : (((XA : Int) + (xN : Int)) == (yA : Int)) = false := by rw [beq_eq_false_iff_ne]; omega
              have hne : ¬ (⟨XA, xN, XB, xM⟩ : Ch).a + (⟨XA, xN, XB, xM⟩ : Ch).n = d.a := by rw [hd]; simp only; omega
              have HO5' : Hid (OwnC w5 w2.heap.size (.slice A5 LR c5) R) := HO5
              have HBA : Hid (Below w5.heap.size w5 (w5.alloc (Obj.cells #[.int .i64 (XA : Int), .int .i64 (xN : Int), .int .i64 (XB : Int), .int .i64 (xM : Int)] 42))) := hid ((Below.refl _ _).alloc (Nat.le_refl _) _)
              have HGE := hid (own_ge HO5.out)
              have HBXA : Hid ((w5.alloc (Obj.cells #[.int .i64 (XA : Int), .int .i64 (xN : Int), .int .i64 (XB : Int), .int .i64 (xM : Int)] 42)).heap[Bx]? = some (chC ⟨XA, xN, XB, xM⟩)) := hid ((HBA.out.block Bx hBxl5).trans HX5.out)
              have HSZ : Hid (w2.heap.size ≤ (w5.alloc (Obj.cells #[.int .i64 (XA : Int), .int .i64 (xN : Int), .int .i64 (XB : Int), .int .i64 (xM : Int)] 42)).heap.size) := hid (Nat.le_trans HB5.out.size HBA.out.size)
              go_wp2_with (at_builtin; refine wpList_append_chG rfl _ _ rfl w2.heap.size _ R rfl (own_stays HO5'.out HBA.out) w5.heap.size ⟨XA, xN, XB, xM⟩ rfl (heap_alloc_new w5 _) (by have := HRL.out; have := HLR.out; omega) HSZ.out ?_; intro v7 w7 hO7 hg7; have HO7 := hid hO7; have HB7 : Hid (Below w2.heap.size w2 w7) := hid ((HB5.out.trans (HBA.out.mono HB5.out.size)).grown hg7 HSZ.out (fun j e => HGE.out j e)); have x7 : w7.heap[Bx]? = some (chC ⟨XA, xN, XB, xM⟩) := (hg7.block Bx (by have := lt_of_heap HBXA.out; exact this) (fun e => HNB5.out e.symm)).trans HBXA.out; have r0 : w7.cell? ⟨Bx, 0, none⟩ = some (.int .i64 XA) := cell_of_blk x7 0; have r2 : w7.cell? ⟨Bx, 2, none⟩ = some (.int .i64 XB) := cell_of_blk x7 2; clear hO7 hg7)
              go_quiet (fail)
              go_wp2
              go_roundw
              case rel =>
                refine ⟨k + 1, by omega, ?_, ?_, ?_, ?_, hid (below_drewN HB7.out _)⟩
                · have h := HI.out
                  rw [show (n : Int) - 1 - ((k + 1 : Nat) : Int) = (i : Int) - 1 by omega]
                · rw [show n - (k + 1) = i by have := HI.out; omega, HSTEP.out]; rw [Ed.put1_no hne]; rfl
                · rw [show n - (k + 1) = i by have := HI.out; omega, HSTEP.out]; rw [Ed.put1_no hne]; rfl
                · rw [show n - (k + 1) = i by have := HI.out; omega, HSTEP.out]
                  refine hid ?_
                  rw [Ed.put1_no hne, show (⟨XA, xN, XB, xM⟩ :: d :: t' : List Ch).reverse = R ++ [⟨XA, xN, XB, xM⟩] by rw [List.reverse_cons, HRR.out]]
                  exact own_stays HO7.out (below_drewN (Below.refl _ _) _)
              case measure => simp [intOf]
    · obtain rfl : k = n := by omega
      rw [Nat.sub_self, List.drop_zero] at HO ⊢
      obtain ⟨T, hT⟩ : ∃ T, T = Ed.slideL a b l := ⟨_, rfl⟩
      have HTT := hid hT
      have hTl := Ed.slide_len a b l
      rw [← hT] at HO hTl ⊢
      obtain ⟨A5, c5, e5⟩ := own_shape HO.out
      subst e5
      obtain ⟨LT, hLT⟩ : ∃ LT, LT = T.reverse.length := ⟨_, rfl⟩
      have hLT2 : LT = T.length := by rw [hLT, List.length_reverse]
      have HRT : Hid (RdC wo (.slice A5 LT c5) T.reverse) := hid (by rw [hLT]; exact own_rd HO.out)
      rw [← hLT]
      have HLT := hid hLT2
      have hLTb : LT ≤ 10000000 := by have := HNN.out; omega
      have HBW : Hid (Below w.heap.size w wo) := hid (HB2.out.trans (HBr.out.mono HB2.out.size))
      have e1 : (k : Int) - 1 - (k : Int) = -1 := by omega
      rw [e1]
      have m0 : IntKind.i64.wrap ((LT : Int) - 1) = (LT : Int) - 1 := wrapOk (by omega) (by omega)
      clear hLT hLT2 hTl HO e1 hT
      go_wp2
      go_loopw [17, 18] (fun v17 v18 wx => ∃ m : Nat, m ≤ LT ∧ v18 = .int .i64 ((LT : Int) - 1 - m) ∧ Hid (OwnC wx wo.heap.size v17 (T.take m)) ∧ Hid (Below wo.heap.size wo wx)) (fun _ v18 _ => (intOf v18 + 1).toNat)
      case atStart => exact ⟨0, Nat.zero_le _, by simp, hid (World.ownsRow_nil _ _ _ _), hid (Below.refl _ _)⟩
      case round =>
        obtain ⟨m, hm, rfl, HOx, HBx⟩ := hrel
        by_cases hlt2 : m < LT
        · obtain ⟨j, hj⟩ : ∃ j, j = LT - 1 - m := ⟨_, rfl⟩
          have e2 : (LT : Int) - 1 - (m : Int) = (j : Int) := by omega
          rw [e2]
          obtain ⟨x, hx⟩ : ∃ x, T[m]? = some x := ⟨_, List.getElem?_eq_getElem (by have := HLT.out; omega)⟩
          have hxr : T.reverse[j]? = some x := by
            rw [List.getElem?_reverse (by have := HLT.out; omega), show T.length - 1 - j = m by have := HLT.out; omega]
            exact hx
          obtain ⟨b7, o7, e7, hb7, p0, p1, p2, p3⟩ := rdC_at HRT.out hxr
          subst e7
          have d0 := (HBx.out.cell (p := ⟨b7, o7 + j * 4, none⟩) hb7).trans p0
          have d1 := (HBx.out.cell (p := ⟨b7, o7 + j * 4 + 1, none⟩) hb7).trans p1
          have d2 := (HBx.out.cell (p := ⟨b7, o7 + j * 4 + 2, none⟩) hb7).trans p2
          have d3 := (HBx.out.cell (p := ⟨b7, o7 + j * 4 + 3, none⟩) hb7).trans p3
          have HTK : Hid (T.take (m + 1) = T.take m ++ [x]) := hid (by rw [List.take_add_one, hx]; rfl)
          have j1 : (0 : Int) ≤ (j : Int) := by omega
          have j2 : (j : Int) < (LT : Int) := by omega
          have j3 : IntKind.i64.wrap ((j : Int) - 1) = (j : Int) - 1 := wrapOk (by omega) (by omega)
          rcases x with ⟨ca, cn, cb, cm⟩
          simp only at d0 d1 d2 d3
          have HBA : Hid (Below wr.heap.size wr (wr.alloc (Obj.cells #[.int .i64 ca, .int .i64 cn, .int .i64 cb, .int .i64 cm] 42))) := hid ((Below.refl _ _).alloc (Nat.le_refl _) _)
          have HSZ : Hid (wo.heap.size ≤ (wr.alloc (Obj.cells #[.int .i64 ca, .int .i64 cn, .int .i64 cb, .int .i64 cm] 42)).heap.size) := hid (Nat.le_trans HBx.out.size HBA.out.size)
          have HTL : Hid ((T.take m).length ≤ 10000000) := hid (by rw [List.length_take]; omega)
          have HJ := hid hj
          clear hx hxr p0 p1 p2 p3 e2 hj
          go_wp2_with (at_builtin; refine wpList_append_ch rfl _ _ rfl wo.heap.size _ (T.take m) rfl (own_stays HOx.out HBA.out) wr.heap.size ⟨ca, cn, cb, cm⟩ rfl (heap_alloc_new wr _) (by have := HTL.out; omega) HSZ.out ?_; intro v7 w7 hO7 hb8; have HO7 := hid hO7; have HB7 := hid ((HBx.out.trans (HBA.out.mono HBx.out.size)).trans hb8); clear hO7 hb8)
          go_roundw
          case rel => exact ⟨m + 1, by omega, by rw [show (LT : Int) - 1 - ((m + 1 : Nat) : Int) = (j : Int) - 1 by have := HJ.out; omega], by rw [HTK.out]; exact HO7, HB7⟩
          case measure => simp [intOf]
        · obtain rfl : m = LT := by omega
          have e2 : (m : Int) - 1 - (m : Int) = -1 := by omega
          rw [e2]
          have HFIN : Hid (OwnC wr w.heap.size u17 T) := hid (by
            have h := HOx.out
            rw [List.take_of_length_le (by have := HLT.out; omega)] at h
            exact own_mono h HBW.out.size)
          clear e2
          go_wp2
          go_ret2
          refine ⟨_, rfl, ?_, HBW.out.trans (HBx.out.mono HBW.out.size)⟩
          rw [← HTT.out]
          exact HFIN.out
end Go.Proofs.YtmomeemkdfoklaaDoor
