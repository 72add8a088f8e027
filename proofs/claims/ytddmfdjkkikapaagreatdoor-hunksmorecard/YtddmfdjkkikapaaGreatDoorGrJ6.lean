/-
  Several texts in one: J6, J8.
-/
import Derived.Test.YtddmfdjkkikapaaGreatDoorGrJ3
/-
  The walks of ahead, begin, lacksEnd, Order.
-/
namespace Go.Proofs.YtddmfdjkkikapaaGreatDoor
open Go.RowKit
open Hu (Rw Hk)

theorem below_set {B g k : Nat} {w w' : World} {u : Value} (h : Below B w w') (hg : B ≤ g) : Below B w (w'.setCell ⟨g, k, none⟩ u) :=
  ⟨h.os, h.tape, h.output, by rw [set_size]; exact h.size, fun j hj => (set_other w' (by omega)).trans (h.block j hj)⟩
set_option maxHeartbeats 1000000 in
set_option maxRecDepth 100000 in
theorem ahead_any (a n : Int) (w : World) (ha : 0 < n → -9223372036854775808 < a) (ha2 : a ≤ 9223372036854775807) : Calls Tryz.prog 61 #[.int .i64 a, .int .i64 n] w fun e w' => e = .returned (.int .i64 (Hu.plc a n)) ∧ w' = w := by
  by_cases h : 0 < n
  · have HE : Hid (Hu.plc a n = a - 1) := hid (if_pos h)
    have i1 : IntKind.i64.wrap (a - 1) = a - 1 := wrapOk (by have := ha h; omega) (by omega)
    rw [HE.out]
    go_enter Tryz.func61, Tryz.ntmps61
    go_wp2_with fail
    go_ret
    exact ⟨rfl, rfl⟩
  · have HE : Hid (Hu.plc a n = a) := hid (if_neg h)
    rw [HE.out]
    go_enter Tryz.func61, Tryz.ntmps61
    go_wp2_with fail
    go_ret
    exact ⟨rfl, rfl⟩
/-- a hunk whose places are numbers -/
def PlH (h : Hk) : Prop := (0 < h.n → -9223372036854775808 < h.a) ∧ h.a ≤ 9223372036854775807 ∧ (0 < h.m → -9223372036854775808 < h.b) ∧ h.b ≤ 9223372036854775807
theorem vld_pl {h : Hk} (hv : Hu.vld h = true) : PlH h := by
  obtain ⟨_, h1, h2, h3, _, h4, h5, h6, _, _⟩ := Hu.vld_parts hv
  unfold PlH
  refine ⟨fun _ => ?_, ?_, fun _ => ?_, ?_⟩ <;> omega
def SpV (x y : Int) : Value := .agg #[.int .i64 x, .int .i64 y]
set_option maxHeartbeats 2000000 in
set_option maxRecDepth 100000 in
theorem begin_any {h : Hk} {v : Value} (w : World) (hp : PlH h) : Calls Tryz.prog 36 #[HkV h v] w fun e w' => e = .returned (SpV (Hu.plc h.a h.n) (Hu.plc h.b h.m)) ∧ Below w.heap.size w w' := by
  obtain ⟨hp1, hp2, hp3, hp4⟩ := hp
  obtain ⟨ha, hn', hb', hm', hh', l⟩ := h
  dsimp only at hp1 hp2 hp3 hp4 ⊢
  unfold HkV SpV
  dsimp only
  have hb0 := (Below.refl w.heap.size w).alloc (Nat.le_refl _) (.cells #[.int .i64 ha, .int .i64 hn', .int .i64 hb', .int .i64 hm', .string hh', v] 37)
  have hk0 := heap_alloc_new w (.cells #[.int .i64 ha, .int .i64 hn', .int .i64 hb', .int .i64 hm', .string hh', v] 37)
  have HC1 := hid (fun w1 => ahead_any ha hn' w1 hp1 hp2)
  have HC2 := hid (fun w1 => ahead_any hb' hm' w1 hp3 hp4)
  generalize Hu.plc ha hn' = p at HC1 ⊢
  generalize Hu.plc hb' hm' = q at HC2 ⊢
  clear hp1 hp2 hp3 hp4
  go_enter Tryz.func36, Tryz.ntmps36
  have hs0 : (w.alloc (.cells #[.int .i64 ha, .int .i64 hn', .int .i64 hb', .int .i64 hm', .string hh', v] 37)).heap.size = w.heap.size + 1 := by simp
  go_wp2_with fail
  generalize w.alloc (.cells #[.int .i64 ha, .int .i64 hn', .int .i64 hb', .int .i64 hm', .string hh', v] 37) = w0 at hb0 hk0 hs0 ⊢
  have hs0 : w0.heap.size = w.heap.size + 1 := hs0
  have hb1 := hb0.alloc hb0.size (.cells #[.int .i64 0, .int .i64 0] 78)
  have hk1 := heap_alloc_new w0 (.cells #[.int .i64 0, .int .i64 0] 78)
  have hk2 := (((Below.refl w0.heap.size w0).alloc (Nat.le_refl _) (.cells #[.int .i64 0, .int .i64 0] 78)).block w.heap.size (lt_of_heap hk0)).trans hk0
  generalize w0.alloc (.cells #[.int .i64 0, .int .i64 0] 78) = w1 at hb1 hk1 hk2 ⊢
  have d0 : w1.cell? ⟨w.heap.size, 0, none⟩ = some (.int .i64 ha) := cell_of_blk hk2 0
  have d1 : w1.cell? ⟨w.heap.size, 1, none⟩ = some (.int .i64 hn') := cell_of_blk hk2 1
  have d2 : w1.cell? ⟨w.heap.size, 2, none⟩ = some (.int .i64 hb') := cell_of_blk hk2 2
  have d3 : w1.cell? ⟨w.heap.size, 3, none⟩ = some (.int .i64 hm') := cell_of_blk hk2 3
  have HB1 := hid hb1
  have HK1 := hid hk1
  rw [hs0] at HK1
  clear hb0 hk0 hb1 hk2 hs0 hk1
  go_wp2_with fail
  refine wp_region_qtail 11 (by kernel_rfl) (by kernel_rfl) ?_
  simp only [List.take_succ_cons, List.take_zero, List.drop_succ_cons, List.drop_zero]
  repeat go_big_quiet_step (fail)
  go_big_quiet_want
  go_big_quiet_op
  refine ⟨_, HC1.out _, ?_⟩
  go_big_quiet_on
  repeat go_big_quiet_step (fail)
  go_big_quiet_want
  go_big_quiet_op
  refine ⟨_, HC2.out _, ?_⟩
  go_big_quiet_on
  repeat go_big_quiet_step (fail)
  refine wpQuiet_nil ?_
  have e0 : (w1.drewN 1).cell? ⟨w.heap.size + 1, 0, none⟩ = some (.int .i64 0) := cell_of_blk HK1.out 0
  have e1 : (w1.drewN 1).cell? ⟨w.heap.size + 1, 1, none⟩ = some (.int .i64 0) := cell_of_blk HK1.out 1
  have f0 : ∀ j, (w1.drewN 1).frozen? ⟨w.heap.size + 1, j, none⟩ = false := fun j => frozen_of_blk HK1.out j
  have HB2 := hid (below_drewN HB1.out 1)
  have HK2 : Hid ((w1.drewN 1).heap[w.heap.size + 1]? = some (.cells #[.int .i64 0, .int .i64 0] 78)) := hid HK1.out
  generalize w1.drewN 1 = w2 at e0 e1 f0 HB2 HK2 ⊢
  go_wp2_with fail
  have hk3 := set_heap _ (w.heap.size + 1) 1 _ _ (.int .i64 q) (set_heap _ (w.heap.size + 1) 0 _ _ (.int .i64 p) HK2.out)
  have HB3 := hid (below_set (k := 1) (u := .int .i64 q) (below_set (k := 0) (u := .int .i64 p) HB2.out (Nat.le_succ w.heap.size)) (Nat.le_succ w.heap.size))
  generalize ((w2.setCell ⟨w.heap.size + 1, 0, none⟩ (.int .i64 p)).setCell ⟨w.heap.size + 1, 1, none⟩ (.int .i64 q)) = w3 at hk3 HB3 ⊢
  have r0 : w3.cell? ⟨w.heap.size + 1, 0, none⟩ = some (.int .i64 p) := cell_of_blk hk3 0
  have r1 : w3.cell? ⟨w.heap.size + 1, 1, none⟩ = some (.int .i64 q) := cell_of_blk hk3 1
  exact bodyPost_ret (v := .agg #[.int .i64 p, .int .i64 q]) (by simp [results, Tryz.results36, go_sem, r0, r1]) rfl ⟨rfl, HB3.out⟩
theorem whole_any2 (s : ByteArray) (w : World) (hs : s.size ≤ maxLen) : Calls Tryz.prog 65 #[.string s] w fun e w' => e = .returned (.bool (Hu.whT s)) ∧ w' = w := Cx.whole_any s w hs
theorem lack_at {s : List ByteArray} {x : ByteArray} (h : s[s.length - 1]? = some x) : Hu.lack s = !Hu.whT x := by
  unfold Hu.lack
  rw [List.getLast?_eq_getElem?, h]
set_option maxHeartbeats 1000000 in
set_option maxRecDepth 100000 in
theorem lacksEnd_any {w : World} {v : Value} {s : List ByteArray} (hv : RdT w v s) (hl : s.length < 8796093022200) (hs : ∀ x ∈ s, x.size ≤ maxLen) :
    Calls Tryz.prog 78 #[v] w fun e w' => e = .returned (.bool (Hu.lack s)) ∧ w' = w := by
  obtain ⟨a, c, rfl⟩ := hv.shape
  by_cases h0 : s.length = 0
  · have e : s = [] := List.length_eq_zero_iff.1 h0
    subst e
    clear h0
    go_enter Tryz.func78, Tryz.ntmps78
    go_wp2_with fail
    go_ret
    exact ⟨rfl, rfl⟩
  · obtain ⟨x, hx⟩ : ∃ x, s[s.length - 1]? = some x := ⟨_, List.getElem?_eq_getElem (by omega)⟩
    have HE := hid (lack_at hx)
    obtain ⟨b, o, rfl, hb, d⟩ := rdT_at hv hx
    have HW := hid (whole_any2 x w (hs x (List.mem_of_getElem? hx)))
    rw [HE.out]
    obtain ⟨M, hM⟩ : ∃ M, M = s.length - 1 := ⟨_, rfl⟩
    have e1 : s.length = M + 1 := by omega
    rw [← hM] at d
    rw [e1] at hl ⊢
    generalize Hu.whT x = q at HW ⊢
    have i1 : IntKind.i64.wrap ((M : Int) + 1 - 1) = (M : Int) := (wrapOk (by omega) (by omega)).trans (by omega)
    have i2 : IntKind.i64.wrap (M : Int) = (M : Int) := wrapOk (by omega) (by omega)
    have i3 : (0 : Int) ≤ (M : Int) := by omega
    have i4 : (M : Int) < (M : Int) + 1 := by omega
    have i5 : (0 : Int) < (M : Int) + 1 := by omega
    clear hv hs hx HE hM e1 h0
    go_enter Tryz.func78, Tryz.ntmps78
    go_wp2_with fail
    refine HW.out.mono ?_
    rintro e w2 ⟨rfl, h2⟩
    rw [h2]
    clear h2
    go_wp2_with fail
    go_ret
    exact ⟨rfl, rfl⟩
end Go.Proofs.YtddmfdjkkikapaaGreatDoor
/-
  The walks of isContext, groupLength, appendRows, told, behind, hunk (made by wip/genj8.py).
-/
namespace Go.Proofs.YtddmfdjkkikapaaGreatDoor
open Go.RowKit
open Hu (Rw Hk)
open Ed (Ch)

def ctxOk (c : Int) : Bool := decide (0 ≤ c) && decide (c ≤ 2147483647)
set_option maxHeartbeats 1000000 in
set_option maxRecDepth 100000 in
theorem isContext_any (c : Int) (w : World) : Calls Tryz.prog 25 #[.int .i64 c] w fun e w' => e = .returned (.bool (ctxOk c)) ∧ w' = w := by
  unfold ctxOk
  by_cases h1 : 0 ≤ c
  · rw [decide_eq_true h1]
    by_cases h2 : c ≤ 2147483647
    · rw [decide_eq_true h2]
      go_enter Tryz.func25, Tryz.ntmps25
      go_wp2_with fail
      go_ret
      exact ⟨rfl, rfl⟩
    · rw [decide_eq_false h2]
      go_enter Tryz.func25, Tryz.ntmps25
      go_wp2_with fail
      go_ret
      exact ⟨rfl, rfl⟩
  · rw [decide_eq_false h1]
    go_enter Tryz.func25, Tryz.ntmps25
    go_wp2_with fail
    go_ret
    exact ⟨rfl, rfl⟩

/-- changes whose numbers are those of texts -/
def InC (t : List Ch) : Prop := ∀ c ∈ t, 0 ≤ c.a ∧ 0 ≤ c.n ∧ c.a + c.n ≤ 4194304 ∧ 0 ≤ c.b ∧ 0 ≤ c.m ∧ c.b + c.m ≤ 4194304
set_option maxHeartbeats 2000000 in
set_option maxRecDepth 100000 in
theorem groupLength_any {w : World} {v : Value} {t : List Ch} {ctx : Int} (hv : RdC w v t) (hl : t.length ≤ 8388608) (hne : t ≠ []) (hin : InC t) (hc0 : 0 ≤ ctx) (hc1 : ctx ≤ 2147483647) :
    Calls Tryz.prog 29 #[v, .int .i64 ctx] w fun e w' => e = .returned (.int .i64 (Hu.glen ctx t)) ∧ Below w.heap.size w w' := by
  obtain ⟨av, cv, rfl⟩ := hv.shape
  have HV := hid hv
  have HIN := hid hin
  have HP := hid (Hu.glen_pos ctx t hne)
  have HGL := hid (Hu.glen_le ctx t)
  have hn0 : 0 < t.length := List.length_pos_iff.2 hne
  obtain ⟨n, hn⟩ : ∃ n, n = t.length := ⟨_, rfl⟩
  have HN := hid hn
  rw [← hn] at HV hl hn0 ⊢
  have i9 : IntKind.i64.wrap (2 * ctx) = 2 * ctx := wrapOk (by omega) (by omega)
  clear hv hn hne hin
  go_enter Tryz.func29, Tryz.ntmps29
  go_wp2_with fail
  go_loopw [5] (fun ii wr => ∃ (k : Nat), k + 1 ≤ n ∧ ii = .int .i64 ((k : Int) + 1) ∧ Hid (k + 1 ≤ Hu.glen ctx t) ∧ (∃ q, wr = w.drewN q)) (fun ii _ => n - (intOf ii).toNat)
  case atStart => exact ⟨0, by omega, rfl, HP, ⟨0, rfl⟩⟩
  case round =>
    obtain ⟨k, hk, rfl, HK, ⟨q, rfl⟩⟩ := hrel
    obtain ⟨E, hE⟩ : ∃ E, E = k + 1 := ⟨_, rfl⟩
    have e0 : (k : Int) + 1 = (E : Int) := by omega
    rw [e0]
    by_cases hlt : E < n
    · obtain ⟨c, hc⟩ : ∃ c, t[k]? = some c := ⟨_, List.getElem?_eq_getElem (by have := HN.out; omega)⟩
      obtain ⟨d, hd⟩ : ∃ d, t[E]? = some d := ⟨_, List.getElem?_eq_getElem (by have := HN.out; omega)⟩
      obtain ⟨p1, p2, p3, _, _, _⟩ := HIN.out c (List.mem_of_getElem? hc)
      obtain ⟨r1, r2, r3, _, _, _⟩ := HIN.out d (List.mem_of_getElem? hd)
      obtain ⟨b, o, rfl, _, c0', c1', _, _⟩ := rdC_at HV.out hc
      obtain ⟨b2, o2, e, _, d0', _, _, _⟩ := rdC_at HV.out hd
      cases e
      have hEl : (E : Int) < (n : Int) := by omega
      have hE0 : (0 : Int) ≤ (E : Int) := by omega
      have hkl : (k : Int) < (n : Int) := by omega
      have hk0 : (0 : Int) ≤ (k : Int) := by omega
      have i1 : IntKind.i64.wrap ((E : Int) - 1) = (k : Int) := (wrapOk (by omega) (by omega)).trans (by omega)
      have i2 : IntKind.i64.wrap (d.a - c.a) = d.a - c.a := wrapOk (by omega) (by omega)
      have i3 : IntKind.i64.wrap (d.a - c.a - c.n) = d.a - c.a - c.n := wrapOk (by omega) (by omega)
      have i4 : IntKind.i64.wrap ((E : Int) + 1) = (E : Int) + 1 := wrapOk (by omega) (by omega)
      have HC := hid (show t[E - 1]? = some c by rw [show E - 1 = k by omega]; exact hc)
      have HD := hid hd
      have HE := hid hE
      clear hc hd hE e0
      by_cases hg : d.a - c.a - c.n ≤ 2 * ctx
      · have HK2 : Hid (E + 1 ≤ Hu.glen ctx t) := hid (Hu.glen_more ctx t E c d (by have := HE.out; omega) (by have := HE.out; have := HK.out; omega) HC.out HD.out hg)
        go_wp2_with fail
        go_quiet (fail)
        go_wp2_with fail
        go_roundw
        case rel => exact ⟨E, by omega, by go_num, HK2, ⟨_, by first | rfl | exact World.drewN_drewN _ _ _⟩⟩
        case measure => have := HE.out; simp [intOf]; omega
      · have HR : Hid (Hu.glen ctx t = E) := hid (Hu.glen_end ctx t E (by have := HE.out; omega) (by have := HE.out; have := HK.out; omega) (.inr ⟨c, d, HC.out, HD.out, hg⟩))
        go_wp2_with fail
        go_quiet (fail)
        go_wp2_with fail
        go_ret
        exact ⟨by rw [HR.out]; rfl, below_drewN (below_drewN (Below.refl _ _) _) _⟩
    · have HR : Hid (Hu.glen ctx t = E) := hid (Hu.glen_end ctx t E (by omega) (by have := HK.out; omega) (.inl (by have := HN.out; omega)))
      have j1 : ¬ ((E : Int) < (n : Int)) := by omega
      clear hE e0
      go_wp2_with fail
      go_quiet (fail)
      go_wp2_with fail
      go_ret
      exact ⟨by rw [HR.out]; rfl, below_drewN (below_drewN (Below.refl _ _) _) _⟩

/-- what an append may write: its own row alone, where that lies then -/
def OwnOnly (w w' : World) (v v' : Value) : Prop := (∀ k, k < w.heap.size → v.ownBlock ≠ some k → w'.heap[k]? = w.heap[k]?) ∧ Lies w v v'
theorem OwnOnly.refl (w : World) (v : Value) : OwnOnly w w v v := ⟨fun _ _ _ => rfl, fun _ h => .inl h⟩
theorem OwnOnly.step {w w1 w2 w3 : World} {v v1 v3 : Value} (h : OwnOnly w w1 v v1) (hb : Below w1.heap.size w1 w2) (hs : w.heap.size ≤ w1.heap.size) (hg : w2.grownBy w3 v1.ownBlock) (hl : Lies w2 v1 v3) : OwnOnly w w3 v v3 := by
  refine ⟨fun k hk hn => ?_, fun k hk => ?_⟩
  · refine (hg.block k (Nat.lt_of_lt_of_le hk (Nat.le_trans hs hb.size)) (fun e => ?_)).trans ((hb.block k (Nat.lt_of_lt_of_le hk hs)).trans (h.1 k hk hn))
    rcases h.2 k e.symm with h3 | h3
    · exact hn h3
    · omega
  · rcases hl k hk with h3 | h3
    · exact h.2 k h3
    · exact .inr (Nat.le_trans hs (Nat.le_trans hb.size h3))
theorem mk_take {ts : List ByteArray} {k : Nat} {x : ByteArray} {kd : Int} (h : ts[k]? = some x) : Hu.mk kd (ts.take (k + 1)) = Hu.mk kd (ts.take k) ++ [⟨kd, x⟩] := by
  unfold Hu.mk
  rw [List.take_add_one, h, List.map_append]
  rfl
set_option maxHeartbeats 2000000 in
set_option maxRecDepth 100000 in
theorem appendRows_any {w : World} {v vt : Value} {l : List Rw} {ts : List ByteArray} {kd : Int} {B : Nat} (ho : OwnW w B v l) (hB : B ≤ w.heap.size) (ht : RdT w vt ts) (hu : Under B vt) (hl : l.length + ts.length < 5864062014800) :
    Calls Tryz.prog 72 #[v, .int .i64 kd, vt] w fun e w' => ∃ v', e = .returned v' ∧ OwnW w' B v' (l ++ Hu.mk kd ts) ∧ Below B w w' ∧ OwnOnly w w' v v' := by
  obtain ⟨at', ct, rfl⟩ := ht.shape
  obtain ⟨ao, co, rfl⟩ := own_shape ho
  have HT := hid ht
  have HU := hid hu
  obtain ⟨n, hn⟩ : ∃ n, n = ts.length := ⟨_, rfl⟩
  have HN := hid hn
  rw [← hn] at HT HU hl ⊢
  have HO := hid ho
  clear ht hu hn ho
  go_enter Tryz.func72, Tryz.ntmps72
  go_wp2_with fail
  go_loopw [0, 11] (fun vo ii wr => ∃ (k : Nat) (X : List Rw), k ≤ n ∧ ii = .int .i64 k ∧ Hid (X = l ++ Hu.mk kd (ts.take k)) ∧ Hid (OwnW wr B vo X) ∧ Hid (Below B w wr) ∧ Hid (OwnOnly w wr (.slice ao l.length co) vo)) (fun _ ii _ => n - (intOf ii).toNat)
  case atStart => exact ⟨0, l, Nat.zero_le _, rfl, hid (by simp [Hu.mk]), HO, Below.refl _ _, OwnOnly.refl _ _⟩
  case round =>
    obtain ⟨k, X, hk, rfl, HX, HW, HB, HOO⟩ := hrel
    obtain ⟨a1, c1, rfl⟩ := own_shape HW.out
    have HSZ : Hid (w.heap.size ≤ wr.heap.size) := hid HB.out.size
    by_cases hlt : k < n
    · obtain ⟨x, hx⟩ : ∃ x, ts[k]? = some x := ⟨_, List.getElem?_eq_getElem (by have := HN.out; omega)⟩
      obtain ⟨b1, o1, e1, hb1, d0⟩ := rdT_at (HT.out.keep HU.out HB.out) hx
      subst e1
      have HX2 : Hid (X ++ [⟨kd, x⟩] = l ++ Hu.mk kd (ts.take (k + 1))) := hid (by rw [HX.out, mk_take hx, List.append_assoc])
      have hXl : X.length < 5864062014800 := by
        rw [HX.out, List.length_append, Hu.mk_len, List.length_take]
        omega
      have i1 : (0 : Int) ≤ (k : Int) := by omega
      have i2 : (k : Int) < (n : Int) := by omega
      have hBw := Nat.le_trans hB HB.out.size
      have HBN := hid ((Below.refl wr.heap.size wr).alloc (Nat.le_refl _) (.cells #[.int .i64 kd, .string x] 59))
      have HB1 := hid (HB.out.alloc hBw (.cells #[.int .i64 kd, .string x] 59))
      have HW1 := hid (own_stays HW.out HBN.out)
      clear hx hb1
      go_wp2_with (at_builtin; refine wpList_append_row rfl _ _ rfl B _ X rfl HW1.out wr.heap.size kd x rfl (heap_alloc_new wr _) hXl (Nat.le_trans hBw HBN.out.size) ?_; intro v3 w3 hO3 hg3 hl3 hb3; have HO3 := hid hO3; have HB3 := hid (HB1.out.trans hb3); have HOO3 := hid (HOO.out.step HBN.out HSZ.out hg3 hl3); clear hO3 hg3 hl3 hb3)
      go_roundw
      case rel => exact ⟨k + 1, _, by omega, by go_num, HX2, HO3, HB3, HOO3⟩
      case measure => simp [intOf]; omega
    · obtain rfl : k = n := by omega
      have HE : Hid (X = l ++ Hu.mk kd ts) := hid (by rw [HX.out, List.take_of_length_le (by have := HN.out; omega)])
      go_wp2_with fail
      go_ret
      exact ⟨_, rfl, by rw [← HE.out]; exact HW.out, HB.out, HOO.out⟩

set_option maxHeartbeats 1000000 in
set_option maxRecDepth 100000 in
theorem told_any (p : Int) (n : Nat) (w : World) (hp : p < 9223372036854775807) (hp2 : -9223372036854775808 ≤ p) : Calls Tryz.prog 108 #[.int .i64 p, .int .i64 n] w fun e w' => e = .returned (.int .i64 (Hu.told p n)) ∧ w' = w := by
  by_cases h : 0 < n
  · have HE : Hid (Hu.told p n = p + 1) := hid (if_pos h)
    have i1 : IntKind.i64.wrap (p + 1) = p + 1 := wrapOk (by omega) (by omega)
    have i2 : (0 : Int) < (n : Int) := by omega
    rw [HE.out]
    go_enter Tryz.func108, Tryz.ntmps108
    go_wp2_with fail
    go_ret
    exact ⟨rfl, rfl⟩
  · have HE : Hid (Hu.told p n = p) := hid (if_neg h)
    have i2 : ¬ (0 : Int) < (n : Int) := by omega
    rw [HE.out]
    go_enter Tryz.func108, Tryz.ntmps108
    go_wp2_with fail
    go_ret
    exact ⟨rfl, rfl⟩

theorem olds_take_len {l : List Rw} {k : Nat} {x : Rw} (h : l[k]? = some x) : ((Hu.olds (l.take (k + 1))).length : Int) = (Hu.olds (l.take k)).length + if Hu.isO x then 1 else 0 := by
  rw [olds_take h]
  split <;> simp
theorem fres_take_len {l : List Rw} {k : Nat} {x : Rw} (h : l[k]? = some x) : ((Hu.fres (l.take (k + 1))).length : Int) = (Hu.fres (l.take k)).length + if Hu.isF x then 1 else 0 := by
  rw [fres_take h]
  split <;> simp
/-- rows of the three kinds -/
def Kd (l : List Rw) : Prop := ∀ r ∈ l, r.k = 1 ∨ r.k = 2 ∨ r.k = 3
set_option maxHeartbeats 4000000 in
set_option maxRecDepth 100000 in
theorem behind_any {w : World} {v : Value} {l : List Rw} {x y : Int} (hv : RdW w v l) (hl : l.length < 5864062014800) (hk : Kd l) (hx0 : -4611686018427387904 ≤ x) (hx1 : x ≤ 4611686018427387904) (hy0 : -4611686018427387904 ≤ y) (hy1 : y ≤ 4611686018427387904) :
    Calls Tryz.prog 39 #[SpV x y, v] w fun e w' => e = .returned (SpV (x + (Hu.olds l).length) (y + (Hu.fres l).length)) ∧ Below w.heap.size w w' := by
  obtain ⟨av, cv, rfl⟩ := hv.shape
  unfold SpV
  have HV := hid hv
  have HKD := hid hk
  obtain ⟨n, hn⟩ : ∃ n, n = l.length := ⟨_, rfl⟩
  have HN := hid hn
  rw [← hn] at HV hl ⊢
  clear hv hk hn
  have hb0 := (Below.refl w.heap.size w).alloc (Nat.le_refl _) (.cells #[.int .i64 x, .int .i64 y] 78)
  have hb1 := hb0.alloc hb0.size (.cells #[.int .i64 0, .int .i64 0] 78)
  have hk1 : ((w.alloc (.cells #[.int .i64 x, .int .i64 y] 78)).alloc (.cells #[.int .i64 0, .int .i64 0] 78)).heap[w.heap.size]? = some (.cells #[.int .i64 x, .int .i64 y] 78) := (((Below.refl _ _).alloc (Nat.le_refl _) _).block w.heap.size (by simp)).trans (heap_alloc_new w _)
  have hk2 : ((w.alloc (.cells #[.int .i64 x, .int .i64 y] 78)).alloc (.cells #[.int .i64 0, .int .i64 0] 78)).heap[w.heap.size + 1]? = some (.cells #[.int .i64 0, .int .i64 0] 78) := by
    have := heap_alloc_new (w.alloc (.cells #[.int .i64 x, .int .i64 y] 78)) (.cells #[.int .i64 0, .int .i64 0] 78)
    simpa using this
  have HB1 := hid hb1
  have HK1 := hid hk1
  have HK2 := hid hk2
  clear hb0 hb1 hk1 hk2
  go_enter Tryz.func39, Tryz.ntmps39
  go_wp2_with fail
  obtain ⟨S, hS⟩ : ∃ S, S = w.heap.size := ⟨_, rfl⟩
  obtain ⟨R, hR⟩ : ∃ R, R = w.heap.size + 1 := ⟨_, rfl⟩
  rw [← hR, ← hS]
  rw [← hS] at HK1
  rw [← hR] at HK2
  have HSR : Hid (w.heap.size ≤ S ∧ w.heap.size ≤ R ∧ S ≠ R) := hid (by omega)
  clear hS hR
  go_loopw [9] (fun ii wr => ∃ (k : Nat) (p q : Int), k ≤ n ∧ ii = .int .i64 k ∧ 0 ≤ p - x ∧ p - x ≤ k ∧ 0 ≤ q - y ∧ q - y ≤ k ∧ Hid (p = x + (Hu.olds (l.take k)).length) ∧ Hid (q = y + (Hu.fres (l.take k)).length) ∧ Hid (wr.heap[S]? = some (.cells #[.int .i64 p, .int .i64 q] 78)) ∧ Hid (wr.heap[R]? = some (.cells #[.int .i64 0, .int .i64 0] 78)) ∧ Hid (Below w.heap.size w wr)) (fun ii _ => n - (intOf ii).toNat)
  case atStart => exact ⟨0, x, y, Nat.zero_le _, rfl, by omega, by omega, by omega, by omega, hid (by simp [Hu.olds]), hid (by simp [Hu.fres]), HK1, HK2, HB1⟩
  case round =>
    obtain ⟨k, p, q, hk, rfl, hp0, hp1, hq0, hq1, HP, HQ, HS, HR, HB⟩ := hrel
    by_cases hlt : k < n
    · obtain ⟨z, hz⟩ : ∃ z, l[k]? = some z := ⟨_, List.getElem?_eq_getElem (by have := HN.out; omega)⟩
      obtain ⟨b1, o1, e1, hb1, d0, d1⟩ := rdW_at (HV.out.below HB.out) hz
      subst e1
      have HKZ := hid (HKD.out z (List.mem_of_getElem? hz))
      have HO := hid (olds_take_len hz)
      have HF := hid (fres_take_len hz)
      have i1 : (0 : Int) ≤ (k : Int) := by omega
      have i2 : (k : Int) < (n : Int) := by omega
      have s1 : IntKind.i64.wrap (p + 1) = p + 1 := wrapOk (by omega) (by omega)
      have s2 : IntKind.i64.wrap (q + 1) = q + 1 := wrapOk (by omega) (by omega)
      obtain ⟨zk, zt⟩ := z
      dsimp only at d0 d1
      clear hz hb1
      have hcase := HKZ.out
      rcases hcase with hz1 | hz1 | hz1
      · have hz2 : zk = 1 := hz1
        subst hz2
        have hbn := (Below.refl wr.heap.size wr).alloc (Nat.le_refl _) (.cells #[.int .i64 1, .string zt] 59)
        have HS1 := hid ((hbn.block S (lt_of_heap HS.out)).trans HS.out)
        have HR1 := hid ((hbn.block R (lt_of_heap HR.out)).trans HR.out)
        have HB2 := hid (HB.out.alloc HB.out.size (.cells #[.int .i64 1, .string zt] 59))
        have t0 : (wr.alloc (.cells #[.int .i64 1, .string zt] 59)).cell? ⟨S, 0, none⟩ = some (.int .i64 p) := cell_of_blk HS1.out 0
        have t1 : (wr.alloc (.cells #[.int .i64 1, .string zt] 59)).cell? ⟨S, 1, none⟩ = some (.int .i64 q) := cell_of_blk HS1.out 1
        have tf : ∀ j, (wr.alloc (.cells #[.int .i64 1, .string zt] 59)).frozen? ⟨S, j, none⟩ = false := fun j => frozen_of_blk HS1.out j
        have HP2 : Hid (p + 1 = x + (Hu.olds (l.take (k + 1))).length) := hid (by have h := HO.out; rw [show Hu.isO ⟨1, zt⟩ = true from rfl] at h; have := HP.out; simp at h; omega)
        have HQ2 : Hid (q + 1 = y + (Hu.fres (l.take (k + 1))).length) := hid (by have h := HF.out; rw [show Hu.isF ⟨1, zt⟩ = true from rfl] at h; have := HQ.out; simp at h; omega)
        have HSa := hid (set_heap _ S 0 _ _ (.int .i64 (p + 1)) HS1.out)
        have u0 : ((wr.alloc (.cells #[.int .i64 1, .string zt] 59)).setCell ⟨S, 0, none⟩ (.int .i64 (p + 1))).cell? ⟨wr.heap.size, 0, none⟩ = some (.int .i64 1) := cell_of_blk ((set_other _ (by have := lt_of_heap HS.out; omega)).trans (heap_alloc_new wr _)) 0
        have u1 : ((wr.alloc (.cells #[.int .i64 1, .string zt] 59)).setCell ⟨S, 0, none⟩ (.int .i64 (p + 1))).cell? ⟨S, 1, none⟩ = some (.int .i64 q) := cell_of_blk HSa.out 1
        have uf : ∀ j, ((wr.alloc (.cells #[.int .i64 1, .string zt] 59)).setCell ⟨S, 0, none⟩ (.int .i64 (p + 1))).frozen? ⟨S, j, none⟩ = false := fun j => frozen_of_blk HSa.out j
        have HS3 := hid (set_heap _ S 1 _ _ (.int .i64 (q + 1)) (set_heap _ S 0 _ _ (.int .i64 (p + 1)) HS1.out))
        have HB3 := hid (below_set (k := 1) (u := .int .i64 (q + 1)) (below_set (k := 0) (u := .int .i64 (p + 1)) HB2.out HSR.out.1) HSR.out.1)
        have HR3 := hid ((set_other (k := 1) (u := .int .i64 (q + 1)) _ (fun e => HSR.out.2.2 e.symm)).trans ((set_other (k := 0) (u := .int .i64 (p + 1)) _ (fun e => HSR.out.2.2 e.symm)).trans HR1.out))
        clear hbn hz1
        go_wp2_with fail
        go_roundw
        case rel => exact ⟨k + 1, p + 1, q + 1, by omega, by go_num, by omega, by omega, by omega, by omega, HP2, HQ2, HS3, HR3, HB3⟩
        case measure => simp [intOf]; omega
      · have hz2 : zk = 2 := hz1
        subst hz2
        have hbn := (Below.refl wr.heap.size wr).alloc (Nat.le_refl _) (.cells #[.int .i64 2, .string zt] 59)
        have HS1 := hid ((hbn.block S (lt_of_heap HS.out)).trans HS.out)
        have HR1 := hid ((hbn.block R (lt_of_heap HR.out)).trans HR.out)
        have HB2 := hid (HB.out.alloc HB.out.size (.cells #[.int .i64 2, .string zt] 59))
        have t0 : (wr.alloc (.cells #[.int .i64 2, .string zt] 59)).cell? ⟨S, 0, none⟩ = some (.int .i64 p) := cell_of_blk HS1.out 0
        have t1 : (wr.alloc (.cells #[.int .i64 2, .string zt] 59)).cell? ⟨S, 1, none⟩ = some (.int .i64 q) := cell_of_blk HS1.out 1
        have tf : ∀ j, (wr.alloc (.cells #[.int .i64 2, .string zt] 59)).frozen? ⟨S, j, none⟩ = false := fun j => frozen_of_blk HS1.out j
        have HP2 : Hid (p + 1 = x + (Hu.olds (l.take (k + 1))).length) := hid (by have h := HO.out; rw [show Hu.isO ⟨2, zt⟩ = true from rfl] at h; have := HP.out; simp at h; omega)
        have HQ2 : Hid (q = y + (Hu.fres (l.take (k + 1))).length) := hid (by have h := HF.out; rw [show Hu.isF ⟨2, zt⟩ = false from rfl] at h; have := HQ.out; simp at h; omega)
        have HSa := hid (set_heap _ S 0 _ _ (.int .i64 (p + 1)) HS1.out)
        have u0 : ((wr.alloc (.cells #[.int .i64 2, .string zt] 59)).setCell ⟨S, 0, none⟩ (.int .i64 (p + 1))).cell? ⟨wr.heap.size, 0, none⟩ = some (.int .i64 2) := cell_of_blk ((set_other _ (by have := lt_of_heap HS.out; omega)).trans (heap_alloc_new wr _)) 0
        have u1 : ((wr.alloc (.cells #[.int .i64 2, .string zt] 59)).setCell ⟨S, 0, none⟩ (.int .i64 (p + 1))).cell? ⟨S, 1, none⟩ = some (.int .i64 q) := cell_of_blk HSa.out 1
        have uf : ∀ j, ((wr.alloc (.cells #[.int .i64 2, .string zt] 59)).setCell ⟨S, 0, none⟩ (.int .i64 (p + 1))).frozen? ⟨S, j, none⟩ = false := fun j => frozen_of_blk HSa.out j
        have HS3 := hid (set_heap _ S 0 _ _ (.int .i64 (p + 1)) HS1.out)
        have HB3 := hid (below_set (k := 0) (u := .int .i64 (p + 1)) HB2.out HSR.out.1)
        have HR3 := hid ((set_other (k := 0) (u := .int .i64 (p + 1)) _ (fun e => HSR.out.2.2 e.symm)).trans HR1.out)
        clear hbn hz1
        go_wp2_with fail
        go_roundw
        case rel => exact ⟨k + 1, p + 1, q, by omega, by go_num, by omega, by omega, by omega, by omega, HP2, HQ2, HS3, HR3, HB3⟩
        case measure => simp [intOf]; omega
      · have hz2 : zk = 3 := hz1
        subst hz2
        have hbn := (Below.refl wr.heap.size wr).alloc (Nat.le_refl _) (.cells #[.int .i64 3, .string zt] 59)
        have HS1 := hid ((hbn.block S (lt_of_heap HS.out)).trans HS.out)
        have HR1 := hid ((hbn.block R (lt_of_heap HR.out)).trans HR.out)
        have HB2 := hid (HB.out.alloc HB.out.size (.cells #[.int .i64 3, .string zt] 59))
        have t0 : (wr.alloc (.cells #[.int .i64 3, .string zt] 59)).cell? ⟨S, 0, none⟩ = some (.int .i64 p) := cell_of_blk HS1.out 0
        have t1 : (wr.alloc (.cells #[.int .i64 3, .string zt] 59)).cell? ⟨S, 1, none⟩ = some (.int .i64 q) := cell_of_blk HS1.out 1
        have tf : ∀ j, (wr.alloc (.cells #[.int .i64 3, .string zt] 59)).frozen? ⟨S, j, none⟩ = false := fun j => frozen_of_blk HS1.out j
        have HP2 : Hid (p = x + (Hu.olds (l.take (k + 1))).length) := hid (by have h := HO.out; rw [show Hu.isO ⟨3, zt⟩ = false from rfl] at h; have := HP.out; simp at h; omega)
        have HQ2 : Hid (q + 1 = y + (Hu.fres (l.take (k + 1))).length) := hid (by have h := HF.out; rw [show Hu.isF ⟨3, zt⟩ = true from rfl] at h; have := HQ.out; simp at h; omega)
        have HS3 := hid (set_heap _ S 1 _ _ (.int .i64 (q + 1)) HS1.out)
        have HB3 := hid (below_set (k := 1) (u := .int .i64 (q + 1)) HB2.out HSR.out.1)
        have HR3 := hid ((set_other (k := 1) (u := .int .i64 (q + 1)) _ (fun e => HSR.out.2.2 e.symm)).trans HR1.out)
        clear hbn hz1
        go_wp2_with fail
        go_roundw
        case rel => exact ⟨k + 1, p, q + 1, by omega, by go_num, by omega, by omega, by omega, by omega, HP2, HQ2, HS3, HR3, HB3⟩
        case measure => simp [intOf]; omega
    · obtain rfl : k = n := by omega
      have hk2 : l.take k = l := List.take_of_length_le (by have := HN.out; omega)
      have HP2 : Hid (p = x + (Hu.olds l).length) := hid (by rw [HP.out, hk2])
      have HQ2 : Hid (q = y + (Hu.fres l).length) := hid (by rw [HQ.out, hk2])
      have t0 : wr.cell? ⟨S, 0, none⟩ = some (.int .i64 p) := cell_of_blk HS.out 0
      have t1 : wr.cell? ⟨S, 1, none⟩ = some (.int .i64 q) := cell_of_blk HS.out 1
      have r0 : wr.cell? ⟨R, 0, none⟩ = some (.int .i64 0) := cell_of_blk HR.out 0
      have r1 : wr.cell? ⟨R, 1, none⟩ = some (.int .i64 0) := cell_of_blk HR.out 1
      have rf : ∀ j, wr.frozen? ⟨R, j, none⟩ = false := fun j => frozen_of_blk HR.out j
      have hk3 := set_heap _ R 1 _ _ (.int .i64 q) (set_heap _ R 0 _ _ (.int .i64 p) HR.out)
      have HB3 := hid (below_set (k := 1) (u := .int .i64 q) (below_set (k := 0) (u := .int .i64 p) HB.out HSR.out.2.1) HSR.out.2.1)
      clear hk2
      go_wp2_with fail
      generalize ((wr.setCell ⟨R, 0, none⟩ (.int .i64 p)).setCell ⟨R, 1, none⟩ (.int .i64 q)) = w3 at hk3 HB3 ⊢
      have z0 : w3.cell? ⟨R, 0, none⟩ = some (.int .i64 p) := cell_of_blk hk3 0
      have z1 : w3.cell? ⟨R, 1, none⟩ = some (.int .i64 q) := cell_of_blk hk3 1
      exact bodyPost_ret (v := .agg #[.int .i64 p, .int .i64 q]) (by simp [results, Tryz.results39, go_sem, z0, z1]) rfl ⟨by rw [← HP2.out, ← HQ2.out], HB3.out⟩
end Go.Proofs.YtddmfdjkkikapaaGreatDoor
