/-
  Several texts in one: Wc, Yq.
-/
import Derived.Test.YtdilmgcdebobaaaWb
import Derived.Deep.RegionWith
import Derived.Test.YtdilmgcdebobaaaL1
import Derived.Laws.OwnMore
/-
  The walk of Anchors: whole.
-/
namespace Go.Proofs.Ytdilmgcdebobaaa
open Go.RowKit
open Ed (Ch Run Pr)

theorem perm_rise {P Q : List Pr} (hp : P.Perm Q) (hr : ∀ (i j : Nat) (x y : Pr), i < j → P[i]? = some x → P[j]? = some y → x.1 ≤ y.1) (hq : Q.Pairwise (fun x y : Pr => x.1 < y.1)) : P = Q := by
  have h1 : P.Pairwise (fun x y : Pr => x.1 ≤ y.1) := List.pairwise_iff_getElem.2 (fun i j hi hj hij => hr i j _ _ hij (List.getElem?_eq_getElem hi) (List.getElem?_eq_getElem hj))
  have hinj : ∀ x ∈ Q, ∀ y ∈ Q, x.1 = y.1 → x = y := by
    intro x hx y hy he
    obtain ⟨i, hi, rfl⟩ := List.getElem_of_mem hx
    obtain ⟨j, hj, rfl⟩ := List.getElem_of_mem hy
    rcases Nat.lt_trichotomy i j with h | h | h
    · have := List.pairwise_iff_getElem.1 hq i j hi hj h; omega
    · subst h; rfl
    · have := List.pairwise_iff_getElem.1 hq j i hj hi h; omega
  exact hp.eq_of_pairwise (fun x y hx hy h1 h2 => hinj x (hp.mem_iff.1 hx) y hy (by omega)) h1 (hq.imp (fun h => by omega))

theorem anc_pairs {w : World} {B M n : Nat} {sl : Int → Bool → Value} {a b : List Int} (hP : Pls w B M n (innA a 0 a.length) sl (plB a b 0 a.length 0 b.length)) (hla : a.length ≤ 4194304) (hlb : b.length ≤ 4194304) (hwa : ∀ x ∈ a, I64 x) {g : Nat} {v : Value} (hg : w.heap[g]? = some (.cells #[v] 22)) (hv : RdI w v a) :
    Calls Try.prog 24 #[.map (some M), .agg #[.int .i64 (0 : Nat), .int .i64 (0 : Nat), .int .i64 a.length, .int .i64 b.length], .slice (some ⟨g, 0, none⟩) 1 1] w fun e w' =>
      ∃ r, e = .returned r ∧ RdP w' r (a.filterMap (ancW a b)) ∧ Below w.heap.size w w' := by
  have hf : [a].flatten.filterMap (anc (plB a b 0 a.length 0 b.length) (0 : Nat) (0 : Nat) a.length b.length) = a.filterMap (ancW a b) := by
    rw [List.flatten_cons, List.flatten_nil, List.append_nil]
    rfl
  refine (anchors_any hP (plB_rise a b _ _ _ _) (fun z s => by have := plB_short a b 0 a.length 0 b.length z s; omega) 0 0 a.length b.length (Nat.zero_le _) (Nat.zero_le _) (rs := [v]) (ls := [a]) ?_ rfl ?_ ?_ ?_ (by simp) ?_).mono ?_
  · refine .inr ⟨g, 0, 1, rfl, Nat.le_refl _, lt_of_heap hg, fun j u hj => ?_⟩
    obtain ⟨h1, e⟩ := List.getElem?_eq_some_iff.1 hj
    have h0 : j = 0 := by simp at h1; omega
    subst h0
    rw [← e]
    exact cell_of_blk hg 0
  · intro j r l hr hl
    obtain ⟨h1, e⟩ := List.getElem?_eq_some_iff.1 hr
    have h0 : j = 0 := by simp at h1; omega
    subst h0
    simp at hr hl
    rw [← hr, ← hl]
    exact hv
  · intro l hl
    simp at hl
    subst hl
    exact hwa
  · simp; omega
  · rw [hf]; exact anc_nodup a b
  · rintro e w' ⟨u, P, rfl, hp, hr, hR, hb⟩
    rw [hf] at hp
    rw [perm_rise hp hr (anc_rise a b)] at hR
    exact ⟨u, rfl, hR, hb⟩

set_option maxHeartbeats 4000000 in
set_option maxRecDepth 100000 in
theorem anchorsW_any {w : World} {v u : Value} {a b : List Int} (hv : RdI w v a) (hu : RdI w u b) (hla : a.length ≤ 4194304) (hlb : b.length ≤ 4194304) (hwa : ∀ x ∈ a, I64 x) (hwb : ∀ x ∈ b, I64 x) :
    Calls Try.prog 10 #[v, u] w fun e w' => ∃ r, e = .returned r ∧ RdP w' r (a.filterMap (ancW a b)) ∧ Below w.heap.size w w' := by
  have HL1 := hid (isLong_any hv)
  have HL2 := hid (isLong_any hu)
  rw [decide_eq_false (show ¬ (a.length : Int) > 4194304 by omega)] at HL1
  rw [decide_eq_false (show ¬ (b.length : Int) > 4194304 by omega)] at HL2
  obtain ⟨a0, c0, rfl⟩ := hv.shape
  obtain ⟨a1, c1, rfl⟩ := hu.shape
  have HV := hid hv
  have HU := hid hu
  have HWA := hid hwa
  have HWB := hid hwb
  clear hv hu hwa hwb
  obtain ⟨w2, hw2⟩ : ∃ w2, w2 = w.alloc (Obj.cells #[.int .i64 0, .int .i64 0, .int .i64 a.length, .int .i64 b.length] 40) := ⟨_, rfl⟩
  have hb2 : Below w.heap.size w w2 := by rw [hw2]; exact (Below.refl _ _).alloc (Nat.le_refl _) _
  have hs2 : w2.heap.size = w.heap.size + 1 := by rw [hw2]; simp
  have e2 : w2.heap[w.heap.size]? = some (Obj.cells #[.int .i64 0, .int .i64 0, .int .i64 a.length, .int .i64 b.length] 40) := by rw [hw2]; exact heap_alloc_new w _
  have HB2 := hid hb2
  have HS2 := hid hs2
  have HE2 := hid e2
  have HW2 := hid hw2
  obtain ⟨NA, hNA⟩ : ∃ NA, NA = a.length := ⟨_, rfl⟩
  obtain ⟨NB, hNB⟩ : ∃ NB, NB = b.length := ⟨_, rfl⟩
  have HPI : Hid (∀ w', Below w2.heap.size w2 w' → Calls Try.prog 23 #[.agg #[.int .i64 0, .int .i64 0, .int .i64 a.length, .int .i64 b.length], .slice a0 a.length c0, .slice a1 b.length c1] w' fun e w'' =>
      ∃ M B n sl, e = .returned (.map (some M)) ∧ Pls w'' B M n (innA a 0 a.length) sl (plB a b 0 a.length 0 b.length) ∧ Below w'.heap.size w' w'') := hid (fun w' hb' => by
    have h0 := HB2.out.trans (hb'.mono HB2.out.size)
    refine (placesIn_any (HV.out.below h0) (HU.out.below h0) hla hlb HWA.out HWB.out 0 0 a.length b.length (Nat.zero_le _) (Nat.le_refl _) (Nat.zero_le _) (Nat.le_refl _)).mono ?_
    rintro e w'' ⟨n, sl, rfl, h1, h2⟩
    exact ⟨_, _, n, sl, rfl, h1, h2⟩)
  have HAN : Hid (∀ (w' : World) (M B n g : Nat) sl, Below w2.heap.size w2 w' → Pls w' B M n (innA a 0 a.length) sl (plB a b 0 a.length 0 b.length) → w'.heap[g]? = some (.cells #[.slice a0 a.length c0] 22) → Calls Try.prog 24 #[.map (some M), .agg #[.int .i64 0, .int .i64 0, .int .i64 a.length, .int .i64 b.length], .slice (some ⟨g, 0, none⟩) 1 1] w' fun e w'' =>
      ∃ r, e = .returned r ∧ RdP w'' r (a.filterMap (ancW a b)) ∧ Below w.heap.size w w'' ∧ Below w'.heap.size w' w'') := hid (fun w' M B n g sl hb' hP hg => by
    have h0 := HB2.out.trans (hb'.mono HB2.out.size)
    refine (anc_pairs hP hla hlb HWA.out hg (HV.out.below h0)).mono ?_
    rintro e w'' ⟨r, rfl, h1, h2⟩
    exact ⟨r, rfl, h1, h0.trans (h2.mono h0.size), h2⟩)
  clear hNA hNB hw2 hb2 hs2 e2
  go_enter Try.func10, Try.ntmps10
  go_wp2_with (go_at_call 22; first | (refine HL1.out.mono ?_; rintro e w1 ⟨rfl, hw1⟩; rw [hw1]; clear hw1 w1) | (refine HL2.out.mono ?_; rintro e w1 ⟨rfl, hw1⟩; rw [hw1]; clear hw1 w1))
  rw [← HW2.out]
  have c0' : w2.cell? ⟨w.heap.size, 0, none⟩ = _ := cell_of_blk HE2.out 0
  have c1' : w2.cell? ⟨w.heap.size, 1, none⟩ = _ := cell_of_blk HE2.out 1
  have c2' : w2.cell? ⟨w.heap.size, 2, none⟩ = _ := cell_of_blk HE2.out 2
  have c3' : w2.cell? ⟨w.heap.size, 3, none⟩ = _ := cell_of_blk HE2.out 3
  simp only [List.getElem?_toArray, List.getElem?_cons_zero, List.getElem?_cons_succ] at c0' c1' c2' c3'
  have hlt2 : w.heap.size < w2.heap.size := by have := HS2.out; omega
  clear HL1 HL2
  go_region_held3 (fun w' => w'.cell? ⟨w.heap.size, 0, none⟩ = some (.int .i64 0) ∧ w'.cell? ⟨w.heap.size, 1, none⟩ = some (.int .i64 0) ∧ w'.cell? ⟨w.heap.size, 2, none⟩ = some (.int .i64 a.length) ∧ w'.cell? ⟨w.heap.size, 3, none⟩ = some (.int .i64 b.length))
    (first
      | go_keep
      | (go_split_ands
         refine ⟨?_, ?_, ?_, ?_⟩ <;> exact (hbk.cell (lt_of_cell (by assumption))).trans (by assumption)))
    (first
      | (go_at_call 24; refine (HAN.out _ M B n _ sl (by first | exact HB3.out | exact HB3.out.alloc HB3.out.size _) (by first | exact HP3.out | exact HP3.out.later ((Below.refl _ _).alloc (Nat.le_refl _) _)) (by first | exact heap_alloc_new _ _ | exact HG3.out)).mono ?_; rintro e w5 ⟨r, rfl, hR, hB5, hbk⟩; have HR5 := hid hR; have HB5 := hid hB5; clear hR hB5)
      | (go_at_call 23; refine (HPI.out _ (by first | exact (Below.refl _ _).drew | exact ((Below.refl _ _).drew).alloc (by simp) _ | exact ((Below.refl _ _).alloc (by simp) _).drew)).mono ?_; rintro e w3 ⟨M, B, n, sl, rfl, hP, hbk⟩; have HP3 := hid hP; have HB3 : Hid (Below w2.heap.size w2 w3) := hid (by first | exact ((Below.refl _ _).drew).trans (hbk.mono (by simp)) | exact (((Below.refl _ _).drew).alloc (by simp) _).trans (hbk.mono (by simp))); try have HG3 := hid ((hbk.block w2.heap.size (by simp)).trans (heap_alloc_new w2.drew _)); clear hP))
  trace_state
  all_goals go_wp2
  all_goals go_ret
  all_goals exact ⟨_, rfl, HR5.out, HB5.out⟩
end Go.Proofs.Ytdilmgcdebobaaa
/-
  Appending many elements of any size.
-/
namespace Go.Proofs.Ytdilmgcdebobaaa
open Go.RowKit

theorem wpList_append_moreq {w : World} {ops : Array Oper} {rest : List Oper} {o : Oper} {a : Act} {Q : Exit → Act → World → Prop} (hgd : o.guard = none) (s x : Operand) (t e : TypeId)
    (ho : o.op = .call { callee := .builtin .append, args := #[s, x], argTypes := #[t, t] }) {z : Value} {sz bytes : Nat} (hu : Try.prog.underlying t = some (.slice e)) (hinf : (Try.prog.info? e).map (fun i => (i.zero, i.size, i.bytes)) = some (some z, sz, bytes)) (hzc : z.cells.size = sz) (hsz : 0 < sz)
    (B : Nat) (v : Value) (k : Nat) (xs : List Value) (hs : a.eval s = v) (hown : w.ownsRow B e sz v k xs) (u : Value) (n : Nat) (cs : List Value) (hx : a.eval x = u) (hr : RdX w u n cs) (hA : ArgS u) (hlen : cs.length = n * sz) (h1 : ∀ y ∈ cs, y.oneCell' = true) (h63 : k + n ≤ maxLen) (hby : (k + n) * bytes ≤ 140737488355328) (hB : B ≤ w.heap.size)
    (h : ∀ v' w', w'.ownsRow B e sz v' (k + n) (xs ++ cs) → w.grownBy w' v.ownBlock → wpList Try.prog ops Q rest (a.put o.dst v') w') : wpList Try.prog ops Q (o :: rest) a w :=
  wpList_plain hgd fun _ hK => by
    obtain ⟨i0, hi, hz0, hz1, hz2⟩ := info_parts hinf
    have hrun : ∃ v' w', (Builtin.append_ #[t, t] o.type #[v, u]).run Try.prog w = .ok v' w' ∧ w'.ownsRow B e sz v' (k + n) (xs ++ cs) ∧ w.grownBy w' v.ownBlock := by
      rcases hA with rfl | ⟨ad, n', c, rfl⟩
      · rcases hr with ⟨rfl, _⟩ | ⟨b, o', c, hv, _⟩
        · have hcs : cs = [] := List.length_eq_zero_iff.1 (by rw [hlen]; simp)
          subst hcs
          refine ⟨_, _, run_append_owned_none (P := Try.prog) (w := w) B t o.type e i0 sz hu hi v k xs hown, by simpa using hown, rfl, rfl, rfl, Nat.le_refl _, fun _ _ _ => rfl⟩
        · cases hv
      · have hnn : n' = n ∧ ∀ j y, cs[j]? = some y → w.cell? (ad.add j) = some y := by
          rcases hr with ⟨rfl, a', c', hv⟩ | ⟨b, o', c', hv, _, _, hX⟩
          · cases hv
            have hcs : cs = [] := List.length_eq_zero_iff.1 (by rw [hlen]; simp)
            subst hcs
            exact ⟨rfl, fun j y hj => by simp at hj⟩
          · cases hv
            refine ⟨rfl, fun j y hj => ?_⟩
            rw [Go.WideShapes.add_plain]
            exact hX j y hj
        obtain ⟨rfl, hnews⟩ := hnn
        obtain ⟨v', w', hr', h2, h3, _⟩ := run_append_own (P := Try.prog) w B t o.type e i0 z sz bytes hu hi hz0 hz1 hz2 hzc hsz v k xs hown ad n' c cs hlen hnews h1 h63 hby hB
        exact ⟨v', w', hr', h2, h3⟩
    obtain ⟨v', w', hrun, h2, h3⟩ := hrun
    unfold Oper.wp execOp
    simp only [ho, resolve, invoke, builtin, Sem.run_bind, Sem.run_pure, Result.andThen_ok, List.map_toArray, List.map_cons, List.map_nil, hs, hx, hrun]
    exact hK _ _ (h v' w' h2 h3)
end Go.Proofs.Ytdilmgcdebobaaa
